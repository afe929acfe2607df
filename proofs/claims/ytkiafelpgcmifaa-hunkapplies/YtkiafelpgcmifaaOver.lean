/-
  The walks of clerestorykit.OverTexts, OverHunk and OverHunks: what was lent is written over, and nothing else.
-/
import Derived.Test.YtkiafelpgcmifaaKeptHunksA
namespace Go.Proofs.Ytkiafelpgcmifaa
open Go.RowKit Go.Shelf

attribute [local go_sem] Oper.semAt_some

/-- All blocks below B, and from N on, stay. -/
structure OverB (B N : Nat) (W W' : World) : Prop where
  os : W'.os = W.os
  tape : W'.tape = W.tape
  output : W'.output = W.output
  size : W.heap.size ≤ W'.heap.size
  block : ∀ j, j < W.heap.size → (j < B ∨ N ≤ j) → W'.heap[j]? = W.heap[j]?
theorem OverB.refl (B N : Nat) (W : World) : OverB B N W W := ⟨rfl, rfl, rfl, Nat.le_refl _, fun _ _ _ => rfl⟩
theorem OverB.trans {B N : Nat} {W X Y : World} (h : OverB B N W X) (k : OverB B N X Y) : OverB B N W Y :=
  ⟨k.os.trans h.os, k.tape.trans h.tape, k.output.trans h.output, Nat.le_trans h.size k.size, fun j hj hb => (k.block j (Nat.lt_of_lt_of_le hj h.size) hb).trans (h.block j hj hb)⟩
theorem OverB.of_below {B N : Nat} {W X : World} (h : Below W.heap.size W X) : OverB B N W X := ⟨h.os, h.tape, h.output, h.size, fun j hj _ => h.block j hj⟩
theorem OverB.of_grown {B N g : Nat} {W X : World} (h : W.grownBy X (some g)) (hB : B ≤ g) (hN : g < N) : OverB B N W X := ⟨h.os, h.tape, h.output, h.size, fun j hj hb => h.block j hj (fun e => by cases e; omega)⟩
/-- A row of its own, from N on, stays. -/
theorem OverB.owns {B N B' k size : Nat} {e : TypeId} {W X : World} (h : OverB B N W X) {v : Value} {xs : List Value} (ho : W.ownsRow B' e size v k xs) (hN : N ≤ B') : X.ownsRow B' e size v k xs := by
  refine ⟨ho.1, ?_⟩
  rcases ho.2 with h0 | ⟨g, cap, cur, hv, hb, hg, h3⟩
  · exact .inl h0
  · exact .inr ⟨g, cap, cur, hv, hb, (h.block g (Array.getElem?_eq_some_iff.1 hg).1 (.inr (by omega))).trans hg, h3⟩
theorem OverB.below {B N n : Nat} {w W X : World} (h : OverB B N W X) (hw : Below n w W) (hn : n ≤ B) (hs : n ≤ w.heap.size) : Below n w X :=
  ⟨h.os.trans hw.os, h.tape.trans hw.tape, h.output.trans hw.output, Nat.le_trans hw.size h.size, fun j hj => (h.block j (by have := hw.size; omega) (.inl (by omega))).trans (hw.block j hj)⟩

/-- And rows of texts stay rows of texts, of the same room; rows of others stay. -/
structure OverW (B N : Nat) (W W' : World) : Prop where
  b : OverB B N W W'
  txt : ∀ (j : Nat) (cur : Array Value), W.heap[j]? = some (.cells cur 9 (0, 0)) → ∃ cur' : Array Value, W'.heap[j]? = some (.cells cur' 9 (0, 0)) ∧ cur'.size = cur.size
  oth : ∀ (j : Nat) (c : Array Value) (t : TypeId) (fr : Nat × Nat), t ≠ 9 → W.heap[j]? = some (.cells c t fr) → W'.heap[j]? = some (.cells c t fr)
theorem OverW.trans {B N : Nat} {W X Y : World} (h : OverW B N W X) (k : OverW B N X Y) : OverW B N W Y :=
  ⟨h.b.trans k.b, fun j cur hj => by
    obtain ⟨c1, h1, h2⟩ := h.txt j cur hj
    obtain ⟨c2, h3, h4⟩ := k.txt j c1 h1
    exact ⟨c2, h3, h4.trans h2⟩, fun j c t fr ht hj => k.oth j c t fr ht (h.oth j c t fr ht hj)⟩
theorem OverW.of_below {B N : Nat} {W X : World} (h : Below W.heap.size W X) : OverW B N W X :=
  ⟨.of_below h, fun j cur hj => ⟨cur, (h.block j (Array.getElem?_eq_some_iff.1 hj).1).trans hj, rfl⟩, fun j _ _ _ _ hj => (h.block j (Array.getElem?_eq_some_iff.1 hj).1).trans hj⟩
/-- Room for texts. -/
def Room (B N : Nat) (W : World) (g n cap : Nat) : Prop := g < N ∧ ∃ xs, W.ownsRow B 9 1 (.slice (some ⟨g, 0, none⟩) n cap) n xs
theorem Room.over {B N g n cap : Nat} {W X : World} (h : Room B N W g n cap) (k : OverW B N W X) : Room B N X g n cap := by
  obtain ⟨hg, xs, h1, h2⟩ := h
  rcases h2 with ⟨h0, _⟩ | ⟨g', cap', cur, he, hb, hh, hn, hm, hs, ht⟩
  · cases h0
  · injection he with e1 e2 e3
    injection e1 with e1
    injection e1 with e1
    subst e1 e3
    obtain ⟨c2, h3, h4⟩ := k.txt _ _ hh
    refine ⟨hg, c2.toList.take (n * 1), ?_, .inr ⟨_, _, c2, rfl, hb, h3, hn, hm, h4.trans hs, rfl⟩⟩
    rw [List.length_take, Array.length_toList, h4, hs]; omega
theorem OverW.of_over {B N g n cap : Nat} {W X : World} {xs ys : List Value} (h : W.ownsRow B 9 1 (.slice (some ⟨g, 0, none⟩) n cap) n xs) (hg : W.grownBy X (some g)) (h' : X.ownsRow B 9 1 (.slice (some ⟨g, 0, none⟩) n cap) n ys) (hN : g < N) : OverW B N W X := by
  rcases h.2 with ⟨h0, _⟩ | ⟨g1, cap1, cur1, he, hb, hh, -, -, hs, -⟩
  · cases h0
  rcases h'.2 with ⟨h0, _⟩ | ⟨g2, cap2, cur2, he2, hb2, hh2, -, -, hs2, -⟩
  · cases h0
  injection he with e1 e2 e3
  injection e1 with e1
  injection e1 with e1
  injection he2 with f1 f2 f3
  injection f1 with f1
  injection f1 with f1
  subst e1 e3 f1 f3
  refine ⟨.of_grown hg hb hN, fun j cur hj => ?_, fun j c t fr ht hj => ?_⟩
  · by_cases hjg : j = g
    · subst hjg
      rw [hh] at hj
      injection hj with hj
      injection hj with hj
      subst hj
      exact ⟨cur2, hh2, hs2.trans hs.symm⟩
    · exact ⟨cur, (hg.block j (Array.getElem?_eq_some_iff.1 hj).1 (by simp [hjg])).trans hj, rfl⟩
  · by_cases hjg : j = g
    · subst hjg
      rw [hh] at hj
      injection hj with hj
      injection hj with _ hj
      exact absurd hj.symm ht
    · exact (hg.block j (Array.getElem?_eq_some_iff.1 hj).1 (by simp [hjg])).trans hj

theorem over_two (n g cap B N : Nat) (w : World) (hr : Room B N w g (n + 12) cap) (hn : n ≤ 5000) :
    Calls Try.prog 13 #[.slice (some ⟨g, 0, none⟩) n cap] w fun e w' => e = .returned (.tuple #[]) ∧ OverW B N w w' := by
  obtain ⟨hgN, xs, hall⟩ := hr
  have hcap : ((n : Int) + 12) ≤ (cap : Int) := by
    rcases hall.2 with ⟨h0, _⟩ | ⟨g', cap', cur, he, _, _, hnc, _⟩
    · cases h0
    · injection he with _ _ e3; omega
  have HALL : Hid (_) := hall
  go_enter Try.func13, Try.ntmps13
  go_wp2
  go_loopw [3] (fun i wr => ∃ (k : Nat) (ys : List Value), k ≤ n + 12 ∧ i = .int .i64 k ∧ wr.ownsRow B 9 1 (.slice (some ⟨g, 0, none⟩) (n + 12) cap) (n + 12) ys ∧ w.grownBy wr (some g)) (fun i _ => n + 12 - (intOf i).toNat)
  case atStart => exact ⟨0, xs, by omega, rfl, hall, ⟨rfl, rfl, rfl, Nat.le_refl _, fun _ _ _ => rfl⟩⟩
  case round =>
    obtain ⟨k, ys, hk, rfl, hown, hgr⟩ := hrel
    by_cases hlt : k < n + 12
    · obtain ⟨u0, cT⟩ := owns_cell hown k hlt
      have fT := hown.frozenAt k
      go_wp2_with (go_at_call 19; refine (markText_any 2 k _).mono ?_; rintro e wm ⟨rfl, hbm⟩; have hownm := owns_below hown hbm; obtain ⟨u1, cTm⟩ := owns_cell hownm k hlt; have fTm := hownm.frozenAt k)
      have hst := hownm.stored k (.string (Ln.bs (mkT 2 k)))
      go_roundw
      case rel =>
        exact ⟨k + 1, _, by omega, by go_num, hst.1, ⟨hst.2.os.trans (hbm.os.trans hgr.os), hst.2.tape.trans (hbm.tape.trans hgr.tape), hst.2.output.trans (hbm.output.trans hgr.output), Nat.le_trans hgr.size (Nat.le_trans hbm.size hst.2.size), fun j hj hne =>
          (hst.2.block j (Nat.lt_of_lt_of_le hj (Nat.le_trans hgr.size hbm.size)) hne).trans ((hbm.block j (Nat.lt_of_lt_of_le hj hgr.size)).trans (hgr.block j hj hne))⟩⟩
      case measure => simp [intOf]; omega
    · go_wp2
      go_end0
      exact ⟨rfl, OverW.of_over HALL.out hgr hown hgN⟩

set_option maxRecDepth 100000 in
set_option maxHeartbeats 4000000 in
theorem overHunk_any (p : Int) (g1 n1 c1 g2 n2 c2 B N : Nat) (w : World) (r1 : Room B N w g1 (n1 + 12) c1) (r2 : Room B N w g2 (n2 + 12) c2) (h1 : n1 ≤ 5000) (h2 : n2 ≤ 5000) :
    Calls Try.prog 29 #[.agg #[.int .i64 p, .slice (some ⟨g1, 0, none⟩) n1 c1, .slice (some ⟨g2, 0, none⟩) n2 c2]] w fun e w' => e = .returned (.tuple #[]) ∧ OverW B N w w' := by
  obtain ⟨X, hX⟩ : ∃ X, X = w.alloc (.cells #[.int .i64 p, .slice (some ⟨g1, 0, none⟩) n1 c1, .slice (some ⟨g2, 0, none⟩) n2 c2] 40) := ⟨_, rfl⟩
  have bX : OverW B N w X := .of_below (by rw [hX]; exact below_nw w _)
  have hx : X.heap[w.heap.size]? = some (.cells #[.int .i64 p, .slice (some ⟨g1, 0, none⟩) n1 c1, .slice (some ⟨g2, 0, none⟩) n2 c2] 40 (0, 0)) := by rw [hX]; exact World.alloc_heap_new w _
  have x1 : X.cell? ⟨w.heap.size, 1, none⟩ = some (.slice (some ⟨g1, 0, none⟩) n1 c1) := by rw [Lib.cell_of_heap hx]; rfl
  have O1 : Hid (_) := over_two n1 g1 c1 B N X (r1.over bX) h1
  have HX : Hid (_) := hx
  have R2 : Hid (_) := r2.over bX
  have BX : Hid (OverW B N w X) := bX
  clear r1 r2 hx bX
  go_enter Try.func29, Try.ntmps29
  go_wp2_with fail
  rw [← hX]
  clear hX x1
  refine Calls.mono O1.out ?_
  rintro e w1 ⟨rfl, k1⟩
  have y := k1.oth _ _ _ _ (by decide) HX.out
  have y2 : w1.cell? ⟨w.heap.size, 2, none⟩ = some (.slice (some ⟨g2, 0, none⟩) n2 c2) := by rw [Lib.cell_of_heap y]; rfl
  have O2 : Hid (_) := over_two n2 g2 c2 B N w1 (Room.over R2.out k1) h2
  have K1 : Hid (OverW B N w w1) := BX.out.trans k1
  clear O1 HX R2 BX k1 y
  go_wp2_with fail
  refine Calls.mono O2.out ?_
  rintro e w2 ⟨rfl, k2⟩
  have K2 : Hid (OverW B N w w2) := K1.out.trans k2
  clear O2 K1 k2
  go_wp2
  go_end0
  exact ⟨rfl, K2.out⟩

/-- A hunk with room for texts. -/
def HRoom (B N : Nat) (W : World) (y : HA) : Prop := (∃ g c, y.vo = .slice (some ⟨g, 0, none⟩) y.old.length c ∧ Room B N W g (y.old.length + 12) c) ∧ ∃ g c, y.vn = .slice (some ⟨g, 0, none⟩) y.new.length c ∧ Room B N W g (y.new.length + 12) c
theorem hroom_of {B N : Nat} {W : World} {x y : HA} (h : LentOf B W x y) (hN : W.heap.size ≤ N) : HRoom B N W y := by
  obtain ⟨-, ⟨g1, c1, e1, o1⟩, ⟨g2, c2, e2, o2⟩⟩ := h
  exact ⟨⟨g1, c1, e1, Nat.lt_of_lt_of_le (o1.lt g1 rfl).2 hN, _, o1⟩, ⟨g2, c2, e2, Nat.lt_of_lt_of_le (o2.lt g2 rfl).2 hN, _, o2⟩⟩
/-- Three cells of a row of hunks, one after another. -/
theorem hrow_three {B g n cap k : Nat} {W : World} {xs : List Value} (h : W.ownsRow B 40 3 (.slice (some ⟨g, 0, none⟩) n cap) n xs) (hk : k < n) (u0 u1 u2 : Value) :
    (∃ a b c, W.cell? ⟨g, k * 3, none⟩ = some a ∧ (W.setCell ⟨g, k * 3, none⟩ u0).cell? ⟨g, k * 3 + 1, none⟩ = some b ∧ ((W.setCell ⟨g, k * 3, none⟩ u0).setCell ⟨g, k * 3 + 1, none⟩ u1).cell? ⟨g, k * 3 + 2, none⟩ = some c) ∧ (∀ j, W.frozen? ⟨g, j, none⟩ = false) ∧
    (∃ ys, (((W.setCell ⟨g, k * 3, none⟩ u0).setCell ⟨g, k * 3 + 1, none⟩ u1).setCell ⟨g, k * 3 + 2, none⟩ u2).ownsRow B 40 3 (.slice (some ⟨g, 0, none⟩) n cap) n ys) ∧ W.grownBy (((W.setCell ⟨g, k * 3, none⟩ u0).setCell ⟨g, k * 3 + 1, none⟩ u1).setCell ⟨g, k * 3 + 2, none⟩ u2) (some g) := by
  have key : ∀ {X : World} {zs : List Value}, X.ownsRow B 40 3 (.slice (some ⟨g, 0, none⟩) n cap) n zs → ∀ j, j < n * 3 → ∃ a, X.cell? ⟨g, j, none⟩ = some a := fun hX j hj => by
    have h1 := hX.1
    have h2 := hX.cellAt j hj
    rw [List.getElem?_eq_getElem (by omega)] at h2
    exact ⟨_, h2⟩
  have s1 := h.stored (k * 3) u0
  have s2 := s1.1.stored (k * 3 + 1) u1
  have s3 := s2.1.stored (k * 3 + 2) u2
  obtain ⟨a, ha⟩ := key h (k * 3) (by omega)
  obtain ⟨b, hb⟩ := key s1.1 (k * 3 + 1) (by omega)
  obtain ⟨c, hc⟩ := key s2.1 (k * 3 + 2) (by omega)
  have g12 : ∀ {X Y Z : World}, X.grownBy Y (some g) → Y.grownBy Z (some g) → X.grownBy Z (some g) := fun p q => ⟨q.os.trans p.os, q.tape.trans p.tape, q.output.trans p.output, Nat.le_trans p.size q.size, fun j hj hne => (q.block j (Nat.lt_of_lt_of_le hj p.size) hne).trans (p.block j hj hne)⟩
  exact ⟨⟨a, b, c, ha, hb, hc⟩, fun j => h.frozenAt j, ⟨_, s3.1⟩, g12 (g12 s1.2 s2.2) s3.2⟩

set_option maxRecDepth 100000 in
set_option maxHeartbeats 4000000 in
theorem overHunks_any (ys : List HA) (g cap B N : Nat) (w : World) (hown : w.ownsRow B 40 3 (.slice (some ⟨g, 0, none⟩) (ys.length + 12) cap) (ys.length + 12) (haCells ys ++ mks mcH 1 12)) (hgN : g < N) (hr : ∀ y ∈ ys, HRoom B N w y) (hl : ys.length ≤ 4000) (hs : ∀ y ∈ ys, y.old.length ≤ 5000 ∧ y.new.length ≤ 5000) :
    Calls Try.prog 14 #[.slice (some ⟨g, 0, none⟩) ys.length cap] w fun e w' => e = .returned (.tuple #[]) ∧ OverB B N w w' := by
  have hcap : ((ys.length : Int) + 12) ≤ (cap : Int) := by
    rcases hown.2 with ⟨h0, _⟩ | ⟨g', cap', cur, he, _, _, hnc, _⟩
    · cases h0
    · injection he with _ _ e3; omega
  have hBg : B ≤ g := (hown.lt g rfl).1
  have HOK : Hid (∀ W, OverW B N w W → W.ownsRow B 40 3 (.slice (some ⟨g, 0, none⟩) (ys.length + 12) cap) (ys.length + 12) (haCells ys ++ mks mcH 1 12)) := fun W hW => by
    refine ⟨hown.1, ?_⟩
    rcases hown.2 with h0 | ⟨g', cap', cur, hv, hb, hg, h3⟩
    · exact .inl h0
    · exact .inr ⟨g', cap', cur, hv, hb, hW.oth _ _ _ _ (by decide) hg, h3⟩
  have HY : Hid (∀ W, OverW B N w W → ∀ (k : Nat) (y : HA), ys[k]? = some y → W.cell? ⟨g, k * 3, none⟩ = some (.int .i64 y.at_) ∧ W.cell? ⟨g, k * 3 + 1, none⟩ = some y.vo ∧ W.cell? ⟨g, k * 3 + 2, none⟩ = some y.vn) := fun W hW k y hy => by
    have hk := (List.getElem?_eq_some_iff.1 hy).1
    have hn := haCells_len' ys
    obtain ⟨g0, g1, g2⟩ := haCells_get ys k y hy
    have ho := HOK.out W hW
    refine ⟨(ho.cellAt _ (by omega)).trans ?_, (ho.cellAt _ (by omega)).trans ?_, (ho.cellAt _ (by omega)).trans ?_⟩
    · rw [List.getElem?_append_left (by omega)]; exact g0
    · rw [List.getElem?_append_left (by omega)]; exact g1
    · rw [List.getElem?_append_left (by omega)]; exact g2
  have HR : Hid (∀ y ∈ ys, HRoom B N w y) := hr
  have HS : Hid (_) := hs
  clear hown hr hs
  go_enter Try.func14, Try.ntmps14
  go_wp2
  go_loopw [2] (fun i wr => ∃ (k : Nat), k ≤ ys.length ∧ i = .int .i64 k ∧ OverW B N w wr) (fun i _ => ys.length - (intOf i).toNat)
  case atStart => exact ⟨0, by omega, rfl, OverW.of_below (Below.refl _ _)⟩
  case round =>
    obtain ⟨k, hk, rfl, hW⟩ := hrel
    by_cases hlt : k < ys.length
    · obtain ⟨y, hy⟩ : ∃ y, ys[k]? = some y := ⟨ys[k], List.getElem?_eq_getElem hlt⟩
      obtain ⟨c0, c1, c2⟩ := HY.out wr hW k y hy
      have hm := List.mem_of_getElem? hy
      obtain ⟨⟨g1, k1, e1, r1⟩, ⟨g2, k2, e2, r2⟩⟩ := HR.out y hm
      obtain ⟨l1, l2⟩ := HS.out y hm
      obtain ⟨p, vo, vn, L1, L2⟩ := y
      simp only at c0 c1 c2 e1 e2 r1 r2 l1 l2
      subst e1 e2
      have OH : Hid (_) := overHunk_any p g1 L1.length k1 g2 L2.length k2 B N wr (r1.over hW) (r2.over hW) l1 l2
      have HW : Hid (OverW B N w wr) := hW
      clear hy hm r1 r2 hW l1 l2
      go_wp2_with fail
      refine Calls.mono OH.out ?_
      rintro e w1 ⟨rfl, k1⟩
      have FIN : Hid (OverW B N w w1) := HW.out.trans k1
      clear OH HW k1
      go_wp2
      go_roundw
      case rel => exact ⟨k + 1, by omega, by go_num, FIN.out⟩
      case measure => simp [intOf]; omega
    · have hkl : k = ys.length := by omega
      have OWN : Hid (_) := HOK.out wr hW
      have HB : Hid (OverB B N w wr) := hW.b
      clear hW HY HR HS HOK hkl
      go_wp2
      go_loopw [4] (fun i W => ∃ (j : Nat) (zs : List Value), j ≤ ys.length + 12 ∧ i = .int .i64 j ∧ W.ownsRow B 40 3 (.slice (some ⟨g, 0, none⟩) (ys.length + 12) cap) (ys.length + 12) zs ∧ OverB B N w W) (fun i _ => ys.length + 12 - (intOf i).toNat)
      case atStart => exact ⟨0, _, by omega, rfl, OWN.out, HB.out⟩
      case round =>
        clear OWN HB
        obtain ⟨j, zs, hj, rfl, hown, hB⟩ := hrel
        by_cases hlt2 : j < ys.length + 12
        · have MK : Hid (_) := markHunk_any 2 j (by omega) (by omega) wr
          have OWN : Hid (_) := hown
          have HB : Hid (OverB B N w wr) := hB
          obtain ⟨⟨a0, b0, c0, ha0, hb0, hc0⟩, hf0, -, -⟩ := hrow_three hown hlt2 (.int .i64 0) (.slice none 0 0) (.slice none 0 0)
          clear hown hB hb0 hc0
          go_wp2_with fail
          refine Calls.mono MK.out ?_
          rintro e w1 ⟨rfl, b1⟩
          obtain ⟨⟨a, b, c, ha, hb, hc⟩, hf, ⟨zs', hz⟩, hgr⟩ := hrow_three (owns_below OWN.out b1) hlt2 (.int .i64 (mn 2 j : Nat)) (.slice none 0 0) (.slice none 0 0)
          have FIN : Hid (_ ∧ _) := ⟨hz, (HB.out.trans (.of_below b1)).trans (.of_grown hgr hBg hgN)⟩
          clear MK OWN HB b1 hz hgr ha0 hf0
          go_wp2
          go_roundw
          case rel => exact ⟨j + 1, _, by omega, by go_num, FIN.out.1, FIN.out.2⟩
          case measure => simp [intOf]; omega
        · have HB : Hid (OverB B N w wr) := hB
          clear hown hB
          go_wp2
          go_end0
          exact ⟨rfl, HB.out⟩

end Go.Proofs.Ytkiafelpgcmifaa
