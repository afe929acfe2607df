/-
  The walks of clerestorykit.LentLongs, KeptLongs, LentValue, KeptValue.
-/
import Derived.Test.YtcnmgebjbaclaaaDoorVlAwake
import Derived.Deep.QuietTactic
import Derived.BigQuiet
import Derived.Deep.RegionWith
namespace Go.Proofs.YtcnmgebjbaclaaaDoor
open Go.RowKit Go.Shelf
open Vl (V Res)

/-- A mark's number. -/
def mk1 (i : Nat) : Int := 8000024 + (i : Int)
def mks1 (n : Nat) : List Int := (List.range n).map mk1
theorem mks1_succ (n : Nat) : mks1 (n + 1) = mks1 n ++ [mk1 n] := by unfold mks1; rw [List.range_succ, List.map_append]; rfl
theorem mks1_get (k : Nat) (h : k < 12) : (mks1 12)[k]? = some (mk1 k) := by
  unfold mks1
  rw [List.getElem?_map, List.getElem?_range h]; rfl
abbrev lgV : Int → Value := Value.int .i64
theorem lg_one (L : List Int) : ∀ u ∈ L.map lgV, u.oneCell' = true := by
  intro u hu
  obtain ⟨x, _, rfl⟩ := List.mem_map.1 hu
  rfl
theorem info_long : (Tryd.prog.info? 2).map (fun i => (i.zero, i.size, i.bytes)) = some (some (.int .i64 0), 1, 8) := by kernel_rfl
set_option maxRecDepth 100000 in
set_option maxHeartbeats 2000000 in
theorem mark1_any (i : Nat) (hi : i ≤ 1000000) (w : World) : Calls Tryd.prog 38 #[.int .i64 1, .int .i64 i] w fun e w' => e = .returned (.int .i64 (mk1 i)) ∧ Below w.heap.size w w' := by
  go_enter Tryd.func38, Tryd.ntmps38
  go_wp2
  go_ret
  exact ⟨by simp [mk1], Below.refl _ _⟩
theorem src_cellsL {w w1 : World} {L : List Int} {a : Addr} (hc : ∀ (j : Nat) (x : Int), L[j]? = some x → w.cell? (a.add j) = some (.int .i64 x)) (hB : Below w.heap.size w w1) : ∀ (j : Nat) (u : Value), (L.map lgV)[j]? = some u → w1.cell? (a.add j) = some u := by
  intro j u hu
  rw [List.getElem?_map] at hu
  obtain ⟨x, hx, rfl⟩ := Option.map_eq_some_iff.1 hu
  exact cell_some_below (hc j x hx) hB
theorem longs_parts {n : Nat} {w : World} {v : Value} {L : List Int} (h : CellsLow n w v L.length (L.map lgV)) : ∃ ao cap b off, v = .slice ao L.length cap ∧ (L.length ≤ cap ∧ (ao = none → cap = 0)) ∧ (0 < L.length → ao = some ⟨b, off, none⟩ ∧ b < n) ∧ ∀ (j : Nat) (x : Int), L[j]? = some x → w.cell? ⟨b, off + j, none⟩ = some (.int .i64 x) := by
  obtain ⟨ao, cap, b, off, hv, hc, ha, hx⟩ := h
  exact ⟨ao, cap, b, off, hv, hc, ha, fun j x hj => hx j _ (by rw [List.getElem?_map, hj]; rfl)⟩
set_option maxRecDepth 100000 in
set_option maxHeartbeats 2000000 in
theorem lentL_some (L : List Int) (a : Addr) (cap : Nat) (w : World) (hc : ∀ (j : Nat) (x : Int), L[j]? = some x → w.cell? (a.add j) = some (.int .i64 x)) (hL : L.length ≤ 5000) :
    Calls Tryd.prog 26 #[.slice (some a) L.length cap] w fun e w' => ∃ g cap, e = .returned (.slice (some ⟨g, 0, none⟩) L.length cap) ∧ w'.ownsRow w.heap.size 2 1 (.slice (some ⟨g, 0, none⟩) (L.length + 12) cap) (L.length + 12) ((L ++ mks1 12).map lgV) ∧ Below w.heap.size w w' := by
  obtain ⟨i0, hi, hz0, hz1, hz2⟩ := info_parts info_long
  go_enter Tryd.func26, Tryd.ntmps26
  go_wp2_with (first
    | (at_make; refine wpList_make_own _ rfl _ _ 23 rfl w.heap.size 2 i0 (.int .i64 0) 1 Tryd.underlying23 hi hz0 hz1 _ _ _ (L.length + 12) rfl rfl (by omega) (by rw [hz2]; omega) (by unfold maxLen; omega) (Nat.le_refl _) ?_; intro w1 hown1 hg1; have hB1 := (Below.refl w.heap.size w).grown hg1 (Nat.le_refl _) (by simp))
    | (at_builtin; refine wpList_append_own _ rfl _ _ 23 rfl w.heap.size 2 i0 (.int .i64 0) 1 8 Tryd.underlying23 hi hz0 hz1 hz2 rfl (by decide) _ _ _ rfl hown1 a L.length cap (L.map lgV) rfl (by simp) (src_cellsL hc hB1) (lg_one L) (by unfold maxLen; omega) (by omega) hB1.size ?_; intro v2 w2 hown2 hg2 _))
  have hB2 := hB1.grown hg2 hB1.size (fun q hq => (hown1.lt q hq).1)
  have hown3 : w2.ownsRow w.heap.size 2 1 v2 (L.length + 0) ((L ++ mks1 0).map lgV) := by simpa [mks1] using hown2
  clear hown1 hg1 hg2 hB1 hown2 hc
  go_loopw [3, 4] (fun t i wr => ∃ k : Nat, k ≤ 12 ∧ i = .int .i64 k ∧ wr.ownsRow w.heap.size 2 1 t (L.length + k) ((L ++ mks1 k).map lgV) ∧ Below w.heap.size w wr) (fun _ i _ => 12 - (intOf i).toNat)
  case atStart => exact ⟨0, by omega, rfl, hown3, hB2⟩
  case round =>
    obtain ⟨k, hk, rfl, hown, hB⟩ := hrel
    by_cases hlt : k < 12
    · go_wp2_with (first
        | (go_at_call 38; refine (mark1_any k (by omega) _).mono ?_; rintro e wm ⟨rfl, hbm⟩; have hownm := owns_below hown hbm; have hBm := hB.trans (hbm.mono hB.size))
        | (at_builtin; refine wpList_append_own _ rfl _ _ 23 rfl w.heap.size 2 i0 (.int .i64 0) 1 8 Tryd.underlying23 hi hz0 hz1 hz2 rfl (by decide) _ _ _ rfl (hownm.alloc _) ⟨wm.heap.size, 0, none⟩ 1 1 [.int .i64 (mk1 k)] rfl rfl (cells_new wm [.int .i64 (mk1 k)] 2) (by simp [Value.oneCell']) (by unfold maxLen; omega) (by omega) (by have := hBm.size; simp; omega) ?_; intro v' w1 hown' hgrow _))
      go_roundw
      case rel =>
        refine ⟨k + 1, by omega, by go_num, ?_, ?_⟩
        · rw [mks1_succ, ← List.append_assoc, List.map_append]; exact hown'
        · exact (hBm.alloc hBm.size _).grown hgrow (by have := hBm.size; simp; omega) (fun q hq => (hownm.lt q hq).1)
      case measure => simp [intOf]; omega
    · have hke : k = 12 := by omega
      subst hke
      obtain ⟨g, cap, rfl⟩ := ownsRow_succ hown
      have hcap : (L.length : Int) ≤ (cap : Int) := by
        rcases hown.2 with ⟨h0, _⟩ | ⟨g', cap', cur, he, _, _, hnc, _⟩
        · cases h0
        · injection he with _ _ e3; omega
      go_wp2
      go_ret
      exact ⟨g, cap, by simp, hown, hB⟩

set_option maxRecDepth 100000 in
set_option maxHeartbeats 2000000 in
theorem lentL_nil (L : List Int) (hL : L = []) (w : World) :
    Calls Tryd.prog 26 #[.slice none 0 0] w fun e w' => ∃ g cap, e = .returned (.slice (some ⟨g, 0, none⟩) 0 cap) ∧ w'.ownsRow w.heap.size 2 1 (.slice (some ⟨g, 0, none⟩) (L.length + 12) cap) (L.length + 12) ((L ++ mks1 12).map lgV) ∧ Below w.heap.size w w' := by
  obtain ⟨i0, hi, hz0, hz1, hz2⟩ := info_parts info_long
  have HL : Hid (L = []) := hL
  have hL0 : L.length ≤ 0 := by rw [hL]; exact Nat.le_refl _
  clear hL
  go_enter Tryd.func26, Tryd.ntmps26
  go_wp2_with (first
    | (at_make; refine wpList_make_own _ rfl _ _ 23 rfl w.heap.size 2 i0 (.int .i64 0) 1 Tryd.underlying23 hi hz0 hz1 _ _ _ 12 rfl rfl (by omega) (by rw [hz2]; omega) (by unfold maxLen; omega) (Nat.le_refl _) ?_; intro w1 hown1 hg1; have hB1 := (Below.refl w.heap.size w).grown hg1 (Nat.le_refl _) (by simp))
    | (at_builtin; refine wpList_append_own_none rfl _ _ 23 rfl w.heap.size 2 i0 1 Tryd.underlying23 hi _ _ _ rfl hown1 rfl ?_))
  have hown3 : w1.ownsRow w.heap.size 2 1 (.slice (some ⟨w.heap.size, 0, none⟩) 0 12) (L.length + 0) ((L ++ mks1 0).map lgV) := by rw [HL.out]; exact hown1
  have hB2 := hB1
  clear hown1 hg1 hB1
  go_loopw [3, 4] (fun t i wr => ∃ k : Nat, k ≤ 12 ∧ i = .int .i64 k ∧ wr.ownsRow w.heap.size 2 1 t (L.length + k) ((L ++ mks1 k).map lgV) ∧ Below w.heap.size w wr) (fun _ i _ => 12 - (intOf i).toNat)
  case atStart => exact ⟨0, by omega, rfl, hown3, hB2⟩
  case round =>
    obtain ⟨k, hk, rfl, hown, hB⟩ := hrel
    by_cases hlt : k < 12
    · go_wp2_with (first
        | (go_at_call 38; refine (mark1_any k (by omega) _).mono ?_; rintro e wm ⟨rfl, hbm⟩; have hownm := owns_below hown hbm; have hBm := hB.trans (hbm.mono hB.size))
        | (at_builtin; refine wpList_append_own _ rfl _ _ 23 rfl w.heap.size 2 i0 (.int .i64 0) 1 8 Tryd.underlying23 hi hz0 hz1 hz2 rfl (by decide) _ _ _ rfl (hownm.alloc _) ⟨wm.heap.size, 0, none⟩ 1 1 [.int .i64 (mk1 k)] rfl rfl (cells_new wm [.int .i64 (mk1 k)] 2) (by simp [Value.oneCell']) (by unfold maxLen; omega) (by omega) (by have := hBm.size; simp; omega) ?_; intro v' w1 hown' hgrow _))
      go_roundw
      case rel =>
        refine ⟨k + 1, by omega, by go_num, ?_, ?_⟩
        · rw [mks1_succ, ← List.append_assoc, List.map_append]; exact hown'
        · exact (hBm.alloc hBm.size _).grown hgrow (by have := hBm.size; simp; omega) (fun q hq => (hownm.lt q hq).1)
      case measure => simp [intOf]; omega
    · have hke : k = 12 := by omega
      subst hke
      obtain ⟨g, cap, rfl⟩ := ownsRow_succ hown
      have hcap : (L.length : Int) ≤ (cap : Int) := by
        rcases hown.2 with ⟨h0, _⟩ | ⟨g', cap', cur, he, _, _, hnc, _⟩
        · cases h0
        · injection he with _ _ e3; omega
      go_wp2
      go_ret
      exact ⟨g, cap, by simp, hown, hB⟩

/-- LentTexts, whatever the row. -/
theorem lentLongs_any (L : List Int) (v : Value) (w : World) (hrow : CellsLow w.heap.size w v L.length (L.map lgV)) (hL : L.length ≤ 5000) :
    Calls Tryd.prog 26 #[v] w fun e w' => ∃ g cap, e = .returned (.slice (some ⟨g, 0, none⟩) L.length cap) ∧ w'.ownsRow w.heap.size 2 1 (.slice (some ⟨g, 0, none⟩) (L.length + 12) cap) (L.length + 12) ((L ++ mks1 12).map lgV) ∧ Below w.heap.size w w' := by
  obtain ⟨ao, cap, b, off, rfl, ⟨-, hnone⟩, ha, hc⟩ := longs_parts hrow
  cases ao with
  | none =>
    have hL0 : L = [] := by
      cases L with
      | nil => rfl
      | cons x L => exact absurd (ha (by simp)).1 (by simp)
    subst hL0
    have hc0 := hnone rfl
    subst hc0
    exact lentL_nil [] rfl w
  | some a =>
    refine lentL_some L a cap w (fun j x hx => ?_) hL
    have hj : j < L.length := (List.getElem?_eq_some_iff.1 hx).1
    obtain ⟨e1, -⟩ := ha (by omega)
    cases e1
    have hadd : (⟨b, off, none⟩ : Addr).add j = ⟨b, off + j, none⟩ := by cases j <;> simp [Addr.add]
    rw [hadd]
    exact hc j x hx

/-- The worlds in which a part of a region goes: a cell holds what it held, and nothing below has turned. -/
structure KCls (w : World) (g k : Nat) (v : Value) where
  val : World
  cell : val.cell? ⟨g, k, none⟩ = some v
  below : Below w.heap.size w val

theorem KCls.next {w : World} {g k : Nat} {v : Value} (z : KCls w g k v) (hg : g < w.heap.size) {w2 : World} (hb : Below z.val.heap.size z.val w2) : ∃ z2 : KCls w g k v, w2 = z2.val :=
  ⟨⟨w2, (hb.cell (p := ⟨g, k, none⟩) (Nat.lt_of_lt_of_le hg z.below.size)).trans z.cell, z.below.trans (hb.mono z.below.size)⟩, rfl⟩

/-- A region that draws its order, walked once, in a class of worlds that is given by a family. -/
theorem wp_region_cls {P : Program} {ι : Type} (f : ι → World) {id : Nat} {Q : Exit → Act → World → Prop} {a : Act} {w : World} {l : List Oper} (hm : P.follows .mixedOrders = true) (hB : Region.lexB .any l.toArray = true) (z0 : ι) (h0 : f z0 = w.drew)
    (h : wpQuiet P l.toArray (fun w' => ∃ z, w' = f z) (fun a' => ∀ w', (∃ z, w' = f z) → Q .normal a' w') l a) : (Code.region id l.toArray true).wp P Q a w :=
  wp_region_quiet (C := fun w' => ∃ z, w' = f z) hm hB ⟨z0, h0.symm⟩ (by simpa using h)

set_option maxRecDepth 100000 in
set_option maxHeartbeats 2000000 in
theorem keptLongs_any (L : List Int) (v : Value) (g cap B : Nat) (w : World) (hrow : CellsLow w.heap.size w v L.length (L.map lgV)) (hall : w.ownsRow B 2 1 (.slice (some ⟨g, 0, none⟩) (L.length + 12) cap) (L.length + 12) ((L ++ mks1 12).map lgV)) (hL : L.length ≤ 5000) :
    Calls Tryd.prog 29 #[.slice (some ⟨g, 0, none⟩) L.length cap, v] w fun e w' => e = .returned (.bool true) ∧ Below w.heap.size w w' := by
  obtain ⟨ao, capl, b, off, rfl, -, hao, hc⟩ := longs_parts hrow
  have hcap : ((L.length : Int) + 12) ≤ (cap : Int) := by
    rcases hall.2 with ⟨h0, _⟩ | ⟨g', cap', cur, he, _, _, hnc, _⟩
    · cases h0
    · injection he with _ _ e3; omega
  have hg : g < w.heap.size := (hall.lt g rfl).2
  have hcell : ∀ (j : Nat) (x : Int), (L ++ mks1 12)[j]? = some x → w.cell? ⟨g, j, none⟩ = some (.int .i64 x) := by
    intro j x hx
    have h := hall.cells (g := g) rfl j (.int .i64 x) (by rw [List.getElem?_map, hx]; rfl)
    have ha : (⟨g, 0, none⟩ : Addr).add j = ⟨g, j, none⟩ := by cases j <;> simp [Addr.add]
    rwa [ha] at h
  clear hall hrow
  go_enter Tryd.func29, Tryd.ntmps29
  go_wp2
  go_loopw [6] (fun i wr => ∃ k : Nat, k ≤ L.length + 12 ∧ i = .int .i64 k ∧ Below w.heap.size w wr) (fun i _ => L.length + 12 - (intOf i).toNat)
  case atStart => exact ⟨0, by omega, rfl, Below.refl _ _⟩
  case round =>
    obtain ⟨k, hk, rfl, hB⟩ := hrel
    by_cases hlt : k < L.length
    · obtain ⟨x, hx⟩ : ∃ x, L[k]? = some x := ⟨L[k], List.getElem?_eq_getElem hlt⟩
      obtain ⟨rfl, hbl⟩ := hao (by omega)
      have g1 : wr.cell? ⟨b, off + k, none⟩ = some (.int .i64 x) := (hB.cell (p := ⟨b, off + k, none⟩) hbl).trans (hc k x hx)
      have g2 : wr.cell? ⟨g, k, none⟩ = some (.int .i64 x) := (hB.cell (p := ⟨g, k, none⟩) hg).trans (hcell k x (by rw [List.getElem?_append_left hlt]; exact hx))
      clear hc hcell hao hx
      have i1 : decide ((k : Int) < (L.length : Int)) = true := by simp; omega
      have i2 : decide (L.length ≤ k) = false := by simp; omega
      go_wp2
      go_quiet (fail)
      go_wp2
      go_roundw
      case rel => exact ⟨k + 1, by omega, by go_num, below_drewN hB _⟩
      case measure => simp [intOf]; omega
    · by_cases hlt2 : k < L.length + 12
      · have g2 : wr.cell? ⟨g, k, none⟩ = some (.int .i64 (mk1 (k - L.length))) := (hB.cell (p := ⟨g, k, none⟩) hg).trans (hcell k _ (by rw [List.getElem?_append_right (by omega)]; exact mks1_get _ (by omega)))
        clear hc hcell hao
        have i1 : decide ((k : Int) < (L.length : Int)) = false := by simp; omega
        have i2 : decide (L.length ≤ k) = true := by simp; omega
        have i4 : decide (k < L.length) = false := by simp; omega
        have i3 : (k : Int) - (L.length : Int) = ((k - L.length : Nat) : Int) := by omega
        have hz : ∀ z : KCls w g k (.int .i64 (mk1 (k - L.length))), z.val.cell? ⟨g, k, none⟩ = some (.int .i64 (mk1 (k - L.length))) := fun z => z.cell
        have hne : Nonempty (KCls w g k (.int .i64 (mk1 (k - L.length)))) := ⟨⟨wr.drew, g2, Below.drew hB⟩⟩
        go_wp2
        refine wp_region_cls (KCls.val (w := w) (g := g) (k := k) (v := .int .i64 (mk1 (k - L.length)))) (by kernel_rfl) (by kernel_rfl) ⟨wr.drew, g2, Below.drew hB⟩ rfl ?_
        repeat (go_big_quiet_step ((rename_i z; refine (mark1_any (k - L.length) (by omega) _).mono ?_; rintro e w2 ⟨rfl, hb⟩; exact ⟨rfl, z.next hg hb⟩)))
        refine wpQuiet_nil ?_
        rintro _ ⟨z, rfl⟩
        go_wp2
        go_roundw
        case rel => exact ⟨k + 1, by omega, by go_num, z.below⟩
        case measure => simp [intOf]; omega
      · clear hc hcell hao
        go_wp2
        go_ret
        exact ⟨rfl, hB⟩


theorem cell_box1 (w : World) (a b : Array Value) : ((w.alloc (.cells a 25)).alloc (.cells b 25)).heap[w.heap.size]? = some (.cells a 25 (0, 0)) := by
  rw [(below_new (w.alloc _) _).block _ (by rw [World.size_alloc]; omega)]; exact World.alloc_heap_new w _
theorem cell_box2 (w : World) (a b : Array Value) : ((w.alloc (.cells a 25)).alloc (.cells b 25)).heap[w.heap.size + 1]? = some (.cells b 25 (0, 0)) := by
  have := World.alloc_heap_new (w.alloc (.cells a 25)) (.cells b 25)
  rw [World.size_alloc] at this
  exact this
/-- A value that was lent: its row lies in memory of its own, with marks behind it. -/
def LentV (B : Nat) (w : World) (x y : VA) : Prop := y.k = x.k ∧ y.n = x.n ∧ y.r = x.r ∧ ∃ g cap, y.vs = .slice (some ⟨g, 0, none⟩) x.r.length cap ∧ w.ownsRow B 2 1 (.slice (some ⟨g, 0, none⟩) (x.r.length + 12) cap) (x.r.length + 12) ((x.r ++ mks1 12).map lgV)
theorem LentV.at {B : Nat} {w w' : World} {x y : VA} (h : LentV B w x y) (hb : Below w.heap.size w w') : LentV B w' x y := by
  obtain ⟨h1, h2, h3, g, cap, h4, h5⟩ := h
  exact ⟨h1, h2, h3, g, cap, h4, owns_below h5 hb⟩
theorem LentV.low {B : Nat} {w : World} {x y : VA} (h : LentV B w x y) (hl : x.r.length ≤ 1000000000000000) : y.Low w.heap.size w := by
  obtain ⟨h1, h2, h3, g, cap, h4, h5⟩ := h
  rw [VA.Low, h4, h3]
  refine ⟨?_, hl⟩
  have hg : g < w.heap.size := (h5.lt g rfl).2
  have hcap : x.r.length + 12 ≤ cap := by
    rcases h5.2 with ⟨h0, _⟩ | ⟨g', cap', cur, he, _, _, hnc, _⟩
    · cases h0
    · injection he with _ _ e3; omega
  refine ⟨_, cap, g, 0, rfl, ⟨by omega, fun e => by cases e⟩, fun _ => ⟨rfl, hg⟩, fun j u hj => ?_⟩
  have hjl := (List.getElem?_eq_some_iff.1 hj).1
  rw [List.length_map] at hjl
  have h6 := h5.cells (g := g) rfl j u (by rw [List.map_append, List.getElem?_append_left (by rw [List.length_map]; exact hjl)]; exact hj)
  rw [Addr.add_lit] at h6
  rw [Nat.zero_add] at h6 ⊢
  exact h6
theorem LentV.v {B : Nat} {w : World} {x y : VA} (h : LentV B w x y) : y.v = x.v := by
  obtain ⟨h1, h2, h3, -⟩ := h
  unfold VA.v
  rw [h1, h2, h3]
set_option maxRecDepth 100000 in
set_option maxHeartbeats 4000000 in
theorem lentValue_any (x : VA) (w : World) (hx : x.Low w.heap.size w) (hl : x.r.length ≤ 5000) :
    Calls Tryd.prog 9 #[x.val] w fun e w' => ∃ y : VA, e = .returned y.val ∧ LentV w.heap.size w' x y ∧ Below w.heap.size w w' := by
  obtain ⟨sa, sc, hsv⟩ := hx.shape
  obtain ⟨X0, h0⟩ : ∃ X, X = w.alloc (.cells #[.int .u8 x.k, .int .i64 x.n, x.vs] 25) := ⟨_, rfl⟩
  obtain ⟨X, hX⟩ : ∃ Y, Y = X0.alloc (.cells #[.int .u8 0, .int .i64 0, .slice none 0 0] 25) := ⟨_, rfl⟩
  have b0 : Below w.heap.size w X0 := h0 ▸ below_new w _
  have b1 : Below X0.heap.size X0 X := hX ▸ below_new X0 _
  have s0 : X0.heap.size = w.heap.size + 1 := by rw [h0, World.size_alloc]
  have n0 : X.heap[w.heap.size]? = some (.cells #[.int .u8 x.k, .int .i64 x.n, x.vs] 25 (0, 0)) := (b1.block _ (by omega)).trans (by rw [h0]; exact World.alloc_heap_new w _)
  have n1 : X.heap[w.heap.size + 1]? = some (.cells #[.int .u8 0, .int .i64 0, .slice none 0 0] 25 (0, 0)) := by rw [hX, ← s0]; exact World.alloc_heap_new X0 _
  have bX : Below w.heap.size w X := below_then b0 b1
  have HL : Hid (_) := lentLongs_any x.r x.vs X ((hx.at bX).1) hl
  have HX : Hid (Below w.heap.size w X ∧ X.heap[w.heap.size]? = some (.cells #[.int .u8 x.k, .int .i64 x.n, x.vs] 25 (0, 0)) ∧ X.heap[w.heap.size + 1]? = some (.cells #[.int .u8 0, .int .i64 0, .slice none 0 0] 25 (0, 0)) ∧ w.heap.size + 1 < X.heap.size) := ⟨bX, n0, n1, (Array.getElem?_eq_some_iff.1 n1).1⟩
  have hXX : X = (w.alloc (.cells #[.int .u8 x.k, .int .i64 x.n, x.vs] 25)).alloc (.cells #[.int .u8 0, .int .i64 0, .slice none 0 0] 25) := by rw [hX, h0]
  obtain ⟨xk, xn, xv, xr⟩ := x
  simp only at hsv
  subst hsv
  simp only [VA.val] at hXX HL HX ⊢
  clear hX h0 b0 b1 s0 n0 n1 bX hx
  go_enter Tryd.func9, Tryd.ntmps9
  go_wp2_with fail
  rw [← hXX]
  clear hXX
  refine Calls.mono HL.out ?_
  rintro e w1 ⟨g, cap, rfl, hown, hb⟩
  have HO : Hid (_) := hown
  have m0 := (hb.block _ (by have := HX.out.2.2.2; omega)).trans HX.out.2.1
  have m1 := (hb.block _ HX.out.2.2.2).trans HX.out.2.2.1
  have HBX : Hid (_) := below_then HX.out.1 hb
  -- the row's cell is written
  have a2 := heap_setCell_same w1 w.heap.size 2 _ _ (.slice (some ⟨g, 0, none⟩) xr.length cap) m0
  have g2 := grown_set w1 w.heap.size 2 (.slice (some ⟨g, 0, none⟩) xr.length cap)
  obtain ⟨W2, hW2⟩ : ∃ W, W = w1.setCell ⟨w.heap.size, 2, none⟩ (.slice (some ⟨g, 0, none⟩) xr.length cap) := ⟨_, rfl⟩
  rw [← hW2] at a2 g2
  have k1 := (g2.block (w.heap.size + 1) (Array.getElem?_eq_some_iff.1 m1).1 (by simp)).trans m1
  obtain ⟨zf, d0, d1, d2, Q, hQ, e0, e1, e2, hb3⟩ := rdoor k1 (.int .u8 xk) (.int .i64 xn) (.slice (some ⟨g, 0, none⟩) xr.length cap)
  have hgX : X.heap.size ≤ g := (hown.lt g rfl).1
  have hQg : Q.heap[g]? = w1.heap[g]? := by
    have hg1 : g < w1.heap.size := (hown.lt g rfl).2
    have hne : g ≠ w.heap.size + 1 := by have := HX.out.2.2.2; omega
    have q1 : W2.heap[g]? = w1.heap[g]? := g2.block g hg1 (by have := HX.out.2.2.2; simp; omega)
    rw [hQ]
    have q2 := ((grown_set W2 (w.heap.size + 1) 0 (.int .u8 xk)).trans (grown_set _ (w.heap.size + 1) 1 (.int .i64 xn))).trans (grown_set _ (w.heap.size + 1) 2 (.slice (some ⟨g, 0, none⟩) xr.length cap))
    exact (q2.block g (Nat.lt_of_lt_of_le hg1 g2.size) (by simpa using hne)).trans q1
  have HQ : Hid (Below w.heap.size w Q ∧ Q.ownsRow w.heap.size 2 1 (.slice (some ⟨g, 0, none⟩) (xr.length + 12) cap) (xr.length + 12) ((xr ++ mks1 12).map lgV)) := by
    have bw2 : Below w.heap.size w W2 := HBX.out.trans ⟨g2.os, g2.tape, g2.output, g2.size, fun j hj => g2.block j (by have := HBX.out.size; omega) (fun e => by cases e; omega)⟩
    refine ⟨bw2.trans (hb3.mono (Nat.le_succ _)), ?_⟩
    have h9 := hown
    refine ⟨h9.1, ?_⟩
    rcases h9.2 with ⟨hh, _⟩ | ⟨g', cap', cur, he, hbb, hg, hr⟩
    · cases hh
    · injection he with he1 he2 he3
      injection he1 with he1
      injection he1 with he1 _ _
      subst he1
      exact .inr ⟨g, cap', cur, by rw [← he3], by have := HX.out.2.2.2; omega, hQg.trans hg, hr⟩
  have r0 := vcells_at a2 (o := 0) rfl
  have r1 := vcells_at a2 (o := 1) rfl
  have r2 := vcells_at a2 (o := 2) rfl
  have mf : ∀ j, w1.frozen? ⟨w.heap.size, j, none⟩ = false := fun j => frozen_of_row _ _ j _ _ m0
  have mc := vcells_at m0 (o := 2) rfl
  rw [hW2] at r0 r1 r2 d0 d1 d2 zf hQ
  clear hown hb m0 m1 a2 g2 hW2 k1 hb3 hgX hQg HL
  go_wp2
  rw [← hQ]
  clear hQ d0 d1 d2 zf r0 r1 r2 mf mc
  refine bodyPost_ret (v := vV xk xn (.slice (some ⟨g, 0, none⟩) xr.length cap)) ?_ rfl ⟨⟨xk, xn, .slice (some ⟨g, 0, none⟩) xr.length cap, xr⟩, rfl, ⟨rfl, rfl, rfl, g, cap, rfl, HQ.out.2⟩, HQ.out.1⟩
  simp [results, Tryd.results9, go_sem, e0, e1, e2]
set_option maxRecDepth 100000 in
set_option maxHeartbeats 4000000 in
theorem keptValue_any (x y : VA) (B : Nat) (w : World) (hx : x.Low w.heap.size w) (hl : x.r.length ≤ 5000) (hy : LentV B w x y) :
    Calls Tryd.prog 13 #[y.val, x.val] w fun e w' => e = .returned (.bool true) ∧ Below w.heap.size w w' := by
  have hyl := hy.low (by omega)
  have HS : Hid (∀ a b, Calls Tryd.prog 25 #[y.val, x.val] ((w.alloc (.cells a 25)).alloc (.cells b 25)) fun e w' => e = .returned (.bool true) ∧ Below ((w.alloc (.cells a 25)).alloc (.cells b 25)).heap.size ((w.alloc (.cells a 25)).alloc (.cells b 25)) w') := fun a b => by
    have h := sameValue_any ((w.alloc (.cells a 25)).alloc (.cells b 25)) y.val x.val y.v x.v ((hyl.at (below_two w _ _)).vat) ((hx.at (below_two w _ _)).vat) hyl.2 hx.2
    have e : Vl.same y.v x.v = true := by rw [hy.v]; simp [Vl.same]
    rwa [e] at h
  obtain ⟨k1, k2, k3, g, cap, k4, k5⟩ := hy
  have HK : Hid (∀ W, Below w.heap.size w W → Calls Tryd.prog 29 #[.slice (some ⟨g, 0, none⟩) x.r.length cap, x.vs] W fun e w' => e = .returned (.bool true) ∧ Below W.heap.size W w') := fun W hW => keptLongs_any x.r x.vs g cap B W ((hx.at hW).1) (owns_below k5 hW) hl
  obtain ⟨sa, sc, hsv⟩ := hx.shape
  obtain ⟨xk, xn, xv, xr⟩ := x
  obtain ⟨yk, yn, yv, yr⟩ := y
  simp only at k1 k2 k3 k4 hsv
  subst k1 k2 k4 hsv
  simp only [VA.val] at HS HK ⊢
  clear hyl k3 k5 hx
  have HB2 : Hid (∀ a b, Below w.heap.size w ((w.alloc (.cells a 25)).alloc (.cells b 25))) := fun a b => below_two w _ _
  go_enter Tryd.func13, Tryd.ntmps13
  go_wp2_with fail
  refine Calls.mono (HS.out _ _) ?_
  rintro e w1 ⟨rfl, hb⟩
  have c0 := cell_some_below (vcells_at (cell_box1 w #[.int .u8 yk, .int .i64 yn, .slice (some ⟨g, 0, none⟩) xr.length cap] #[.int .u8 yk, .int .i64 yn, .slice sa xr.length sc]) (o := 2) rfl) hb
  have c1 := cell_some_below (vcells_at (cell_box2 w #[.int .u8 yk, .int .i64 yn, .slice (some ⟨g, 0, none⟩) xr.length cap] #[.int .u8 yk, .int .i64 yn, .slice sa xr.length sc]) (o := 2) rfl) hb
  have H1 : Hid (Below w.heap.size w w1) := below_then (HB2.out _ _) hb
  clear hb
  go_wp2_with fail
  refine Calls.mono (HK.out _ H1.out) ?_
  rintro e w2 ⟨rfl, hb⟩
  go_wp2
  go_ret
  exact ⟨rfl, below_then H1.out hb⟩
end Go.Proofs.YtcnmgebjbaclaaaDoor
