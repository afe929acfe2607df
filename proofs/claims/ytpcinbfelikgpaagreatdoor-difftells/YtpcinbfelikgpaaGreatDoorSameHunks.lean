/-
  The walks of clerestorykit.SameHunk, SameHunks and of the law's samePairs, at rows that are the same.
-/
import Derived.Test.YtpcinbfelikgpaaGreatDoorSame
import Derived.Test.YtpcinbfelikgpaaGreatDoorHunks
import Derived.Deep.RegionWith
namespace Go.Proofs.YtpcinbfelikgpaaGreatDoor
open Go.RowKit

/-- A hunk's lines read, in w, as they are said to; they lie below m. -/
def HV.Low (m : Nat) (w : World) (x : HV) : Prop := RowLow m w x.vo x.old ∧ RowLow m w x.vn x.new
theorem HV.Low.below {m k : Nat} {w w' : World} {x : HV} (h : x.Low m w) (hb : Below k w w') (hm : m ≤ k) : x.Low m w' := ⟨h.1.below hb hm, h.2.below hb hm⟩
theorem HV.Low.mono {m k : Nat} {w : World} {x : HV} (h : x.Low m w) (hm : m ≤ k) : x.Low k w := ⟨h.1.mono hm, h.2.mono hm⟩
theorem HV.Ok.low {B : Nat} {w : World} {x : HV} (h : x.Ok B w) : x.Low w.heap.size w := ⟨RowLow.of_owns h.1, RowLow.of_owns h.2⟩
/-- v reads, in w, as a row of hunks; all of it lies below m. -/
def HkLow (m : Nat) (w : World) (v : Value) (xs : List HV) : Prop := CellsLow m w v xs.length (hkCells xs) ∧ ∀ x ∈ xs, x.Low m w
theorem hkCells_nil : hkCells [] = [] := rfl
theorem HkLow.below {m k : Nat} {w w' : World} {v : Value} {xs : List HV} (h : HkLow m w v xs) (hb : Below k w w') (hm : m ≤ k) : HkLow m w' v xs :=
  ⟨h.1.below hb hm (fun h0 => by rw [List.length_eq_zero_iff.1 h0]; rfl), fun x hx => (h.2 x hx).below hb hm⟩
theorem HkLow.of_owns {B : Nat} {w : World} {v : Value} {xs : List HV} (h : w.ownsRow B 39 3 v xs.length (hkCells xs)) (hx : ∀ x ∈ xs, HV.Ok B x w) : HkLow w.heap.size w v xs :=
  ⟨CellsLow.of_owns h, fun x hx' => (hx x hx').low⟩

theorem hkCells_get (xs : List HV) (k : Nat) (x : HV) (hx : xs[k]? = some x) : (hkCells xs)[k * 3]? = some (numV x.at_) ∧ (hkCells xs)[k * 3 + 1]? = some x.vo ∧ (hkCells xs)[k * 3 + 2]? = some x.vn := by
  induction xs generalizing k with
  | nil => simp at hx
  | cons y ys ih =>
    have e : hkCells (y :: ys) = numV y.at_ :: y.vo :: y.vn :: hkCells ys := rfl
    rw [e]
    cases k with
    | zero => simp at hx; subst hx; simp
    | succ k =>
      have e1 : (k + 1) * 3 = k * 3 + 1 + 1 + 1 := by omega
      rw [e1]
      simpa using ih k (by simpa using hx)

theorem pairCells_get (ps : List (Nat × Nat)) (k : Nat) (p : Nat × Nat) (hp : ps[k]? = some p) : (pairCells ps)[k * 2]? = some (numV p.1) ∧ (pairCells ps)[k * 2 + 1]? = some (numV p.2) := by
  induction ps generalizing k with
  | nil => simp at hp
  | cons q qs ih =>
    have e : pairCells (q :: qs) = numV q.1 :: numV q.2 :: pairCells qs := rfl
    rw [e]
    cases k with
    | zero => simp at hp; subst hp; simp
    | succ k =>
      have e1 : (k + 1) * 2 = k * 2 + 1 + 1 := by omega
      rw [e1]
      simpa using ih k (by simpa using hp)

theorem same_yes (w : World) (v1 v2 : Value) (L : List (List UInt8)) (m : Nat) (h1 : RowLow m w v1 L) (h2 : RowLow m w v2 L) (hl : L.length ≤ 1000000) :
    Calls Tryz.prog 31 #[v1, v2] w fun e w' => e = .returned (.bool true) ∧ ∃ k, w' = w.drewN k := by
  refine (same_any w v1 v2 L L m m h1 h2 (by omega) (by omega)).mono ?_
  rintro e w' ⟨rfl, hk⟩
  exact ⟨by simp, hk⟩

set_option maxRecDepth 100000 in
set_option maxHeartbeats 4000000 in
theorem sameHunk_yes (x y : HV) (m : Nat) (w : World) (hx : x.Low m w) (hy : y.Low m w) (hm : m ≤ w.heap.size) (he : x.hk = y.hk) (l1 : x.old.length ≤ 1000000) (l2 : x.new.length ≤ 1000000) :
    Calls Tryz.prog 23 #[x.val, y.val] w fun e w' => e = .returned (.bool true) ∧ Below w.heap.size w w' := by
  obtain ⟨k, vo, vn, L1, L2⟩ := x
  obtain ⟨k', vo', vn', L1', L2'⟩ := y
  simp only [HV.hk, Df.Hk.mk.injEq] at he
  obtain ⟨rfl, rfl, rfl⟩ := he
  obtain ⟨h1, h2⟩ := hx
  obtain ⟨h1', h2'⟩ := hy
  simp only at h1 h2 h1' h2' l1 l2
  have H1 := h1; have H2 := h2; have H1' := h1'; have H2' := h2'
  obtain ⟨a1, c1, b1, o1, rfl, -, -, -⟩ := h1.parts
  obtain ⟨a2, c2, b2, o2, rfl, -, -, -⟩ := h2.parts
  obtain ⟨a3, c3, b3, o3, rfl, -, -, -⟩ := h1'.parts
  obtain ⟨a4, c4, b4, o4, rfl, -, -, -⟩ := h2'.parts
  simp only [HV.val, hkV]
  have hbW : Below w.heap.size w ((w.alloc (.cells #[.int .i64 k, .slice a1 L1.length c1, .slice a2 L2.length c2] 39)).alloc (.cells #[.int .i64 k, .slice a3 L1.length c3, .slice a4 L2.length c4] 39)) := ((Below.refl _ w).alloc (Nat.le_refl _) _).alloc (by simp) _
  clear h1 h2 h1' h2'
  go_enter Tryz.func23, Tryz.ntmps23
  go_wp2_with fail
  refine (same_yes _ _ _ L1 m (H1.below hbW hm) (H1'.below hbW hm) l1).mono ?_
  rintro e w1 ⟨rfl, d, rfl⟩
  go_wp2_with fail
  refine (same_yes _ _ _ L2 m (H2.below (below_drewN hbW d) hm) (H2'.below (below_drewN hbW d) hm) l2).mono ?_
  rintro e w2 ⟨rfl, d2, rfl⟩
  go_wp2
  go_ret
  exact ⟨rfl, below_drewN hbW (d + d2)⟩

set_option maxRecDepth 100000 in
set_option maxHeartbeats 4000000 in
theorem sameHunks_yes (xs ys : List HV) (v1 v2 : Value) (m : Nat) (w : World) (h1 : HkLow m w v1 xs) (h2 : HkLow m w v2 ys) (hm : m ≤ w.heap.size) (he : xs.map HV.hk = ys.map HV.hk) (hl : ∀ x ∈ xs, x.old.length ≤ 1000000 ∧ x.new.length ≤ 1000000) (hn : xs.length ≤ 1000000) :
    Calls Tryz.prog 11 #[v1, v2] w fun e w' => e = .returned (.bool true) ∧ Below w.heap.size w w' := by
  obtain ⟨⟨ao1, cap1, b1, o1, rfl, -, ha1, hc1⟩, hx1⟩ := h1
  obtain ⟨⟨ao2, cap2, b2, o2, rfl, -, ha2, hc2⟩, hx2⟩ := h2
  have hlen : ys.length = xs.length := by
    have := congrArg List.length he
    simpa using this.symm
  rw [hlen]
  rw [hlen] at ha2
  have hb : ((xs.length : Int) != (xs.length : Int)) = false := by simp
  have HE : Hid (xs.map HV.hk = ys.map HV.hk) := he
  have HL : Hid (ys.length = xs.length) := hlen
  clear he hlen
  go_enter Tryz.func11, Tryz.ntmps11
  go_wp2
  go_loopw [5] (fun i wr => ∃ k : Nat, k ≤ xs.length ∧ i = .int .i64 k ∧ Below w.heap.size w wr) (fun i _ => xs.length - (intOf i).toNat)
  case atStart => exact ⟨0, Nat.zero_le _, rfl, Below.refl _ _⟩
  case round =>
    obtain ⟨k, hk, rfl, hB⟩ := hrel
    by_cases hlt : k < xs.length
    · obtain ⟨x, hx⟩ : ∃ x, xs[k]? = some x := ⟨xs[k], List.getElem?_eq_getElem hlt⟩
      obtain ⟨y, hy⟩ : ∃ y, ys[k]? = some y := ⟨ys[k]'(by have := HL.out; omega), List.getElem?_eq_getElem (by have := HL.out; omega)⟩
      have hxy : x.hk = y.hk := by
        have h := congrArg (fun l => l[k]?) HE.out
        simp only [List.getElem?_map, hx, hy, Option.map_some] at h
        exact Option.some.inj h
      have lx := hl x (List.mem_of_getElem? hx)
      have q1 := hx1 x (List.mem_of_getElem? hx)
      have q2 := hx2 y (List.mem_of_getElem? hy)
      obtain ⟨rfl, hb1⟩ := ha1 (by omega)
      obtain ⟨rfl, hb2⟩ := ha2 (by omega)
      obtain ⟨g0, g1, g2⟩ := hkCells_get xs k x hx
      obtain ⟨f0, f1, f2⟩ := hkCells_get ys k y hy
      have c0 : wr.cell? ⟨b1, o1 + k * 3, none⟩ = some (.int .i64 x.at_) := (hB.cell (p := ⟨b1, o1 + k * 3, none⟩) (by show b1 < _; omega)).trans (hc1 _ _ g0)
      have c1 : wr.cell? ⟨b1, o1 + k * 3 + 1, none⟩ = some x.vo := (hB.cell (p := ⟨b1, o1 + k * 3 + 1, none⟩) (by show b1 < _; omega)).trans (hc1 _ _ g1)
      have c2 : wr.cell? ⟨b1, o1 + k * 3 + 2, none⟩ = some x.vn := (hB.cell (p := ⟨b1, o1 + k * 3 + 2, none⟩) (by show b1 < _; omega)).trans (hc1 _ _ g2)
      have d0 : wr.cell? ⟨b2, o2 + k * 3, none⟩ = some (.int .i64 y.at_) := (hB.cell (p := ⟨b2, o2 + k * 3, none⟩) (by show b2 < _; omega)).trans (hc2 _ _ f0)
      have d1 : wr.cell? ⟨b2, o2 + k * 3 + 1, none⟩ = some y.vo := (hB.cell (p := ⟨b2, o2 + k * 3 + 1, none⟩) (by show b2 < _; omega)).trans (hc2 _ _ f1)
      have d2 : wr.cell? ⟨b2, o2 + k * 3 + 2, none⟩ = some y.vn := (hB.cell (p := ⟨b2, o2 + k * 3 + 2, none⟩) (by show b2 < _; omega)).trans (hc2 _ _ f2)
      have SH : Hid (Calls Tryz.prog 23 #[.agg #[.int .i64 x.at_, x.vo, x.vn], .agg #[.int .i64 y.at_, y.vo, y.vn]] wr.drew _) := sameHunk_yes x y m wr.drew (q1.below (below_drewN hB 1) hm) (q2.below (below_drewN hB 1) hm) (by show m ≤ wr.heap.size; have := hB.size; omega) hxy lx.1 lx.2
      clear hc1 hc2 ha1 ha2 hx1 hx2 q1 q2 g0 g1 g2 f0 f1 f2 hx hy lx hxy hl
      go_wp2
      go_region_with (go_at_call 23; refine SH.out.mono ?_; rintro e w1 ⟨rfl, hb1⟩)
      all_goals go_wp2
      all_goals go_roundw
      all_goals first
        | exact ⟨k + 1, by omega, by go_num, (below_drewN hB 1).trans (hb1.mono hB.size)⟩
        | (simp [intOf]; omega)
    · clear hc1 hc2 ha1 ha2
      go_wp2
      go_ret
      exact ⟨rfl, hB⟩

/-- A pair is the same as itself. -/
theorem pair_eq (x y : Nat) (w : World) : (Op.equalIn 10000 37 (.agg #[.int .i64 x, .int .i64 y]) (.agg #[.int .i64 x, .int .i64 y])).run Tryz.prog w = .ok true w := by
  have u3 := Tryz.underlying3
  rw [show (10000 : Nat) = 9999 + 1 from rfl, Op.equalIn]
  simp only [Sem.run_bind, run_underlying Tryz.underlying37, Result.andThen_ok]
  simp only [Std.Legacy.Range.forIn_eq_forIn_range', Std.Legacy.Range.size, Nat.sub_zero, Nat.add_sub_cancel, Nat.div_one, List.range'_succ, List.range'_zero, List.forIn_cons, List.forIn_nil]
  go_simp

set_option maxRecDepth 100000 in
set_option maxHeartbeats 4000000 in
theorem samePairs_yes (ps : List (Nat × Nat)) (v1 v2 : Value) (m : Nat) (w : World) (h1 : CellsLow m w v1 ps.length (pairCells ps)) (h2 : CellsLow m w v2 ps.length (pairCells ps)) (hn : ps.length ≤ 1000000) :
    Calls Tryz.prog 9 #[v1, v2] w fun e w' => e = .returned (.bool true) ∧ ∃ d, w' = w.drewN d := by
  obtain ⟨ao1, cap1, b1, o1, rfl, -, ha1, hc1⟩ := h1
  obtain ⟨ao2, cap2, b2, o2, rfl, -, ha2, hc2⟩ := h2
  have hb : ((ps.length : Int) != (ps.length : Int)) = false := by simp
  go_enter Tryz.func9, Tryz.ntmps9
  go_wp2
  go_loopw [5] (fun i wr => ∃ k d : Nat, k ≤ ps.length ∧ i = .int .i64 k ∧ wr = w.drewN d) (fun i _ => ps.length - (intOf i).toNat)
  case atStart => exact ⟨0, 0, Nat.zero_le _, rfl, rfl⟩
  case round =>
    obtain ⟨k, d, hk, rfl, rfl⟩ := hrel
    by_cases hlt : k < ps.length
    · obtain ⟨p, hp⟩ : ∃ p, ps[k]? = some p := ⟨ps[k], List.getElem?_eq_getElem hlt⟩
      obtain ⟨rfl, hb1⟩ := ha1 (by omega)
      obtain ⟨rfl, hb2⟩ := ha2 (by omega)
      obtain ⟨g0, g1⟩ := pairCells_get ps k p hp
      obtain ⟨x, y⟩ := p
      have c0 : w.cell? ⟨b1, o1 + k * 2, none⟩ = some (.int .i64 x) := hc1 _ _ g0
      have c1 : w.cell? ⟨b1, o1 + k * 2 + 1, none⟩ = some (.int .i64 y) := hc1 _ _ g1
      have d0 : w.cell? ⟨b2, o2 + k * 2, none⟩ = some (.int .i64 x) := hc2 _ _ g0
      have d1 : w.cell? ⟨b2, o2 + k * 2 + 1, none⟩ = some (.int .i64 y) := hc2 _ _ g1
      have heq := pair_eq x y
      clear hc1 hc2 ha1 ha2 g0 g1 hp
      go_wp2
      go_region
      all_goals go_wp2
      all_goals go_roundw
      case rel => exact ⟨k + 1, d + 1, by omega, by go_num, rfl⟩
      case measure => simp [intOf]; omega
    · clear hc1 hc2 ha1 ha2
      go_wp2
      go_ret
      exact ⟨rfl, d, rfl⟩

end Go.Proofs.YtpcinbfelikgpaaGreatDoor
