/-
  The walk of the law HunkDiffs.
-/
import Derived.Test.YtpcinbfelikgpaaHnAwake
import Derived.Test.YtpcinbfelikgpaaHnDiffs
import Derived.Test.YtpcinbfelikgpaaTextsOf
namespace Go.Proofs.Ytpcinbfelikgpaa
open Go.RowKit Go.Shelf

attribute [local go_sem] Oper.semAt_some

set_option maxRecDepth 100000 in
set_option maxHeartbeats 2000000 in
theorem great_nil (L : List (List UInt8)) (v : Value) (m : Nat) (w : World) (hrow : RowLow m w v L) (hL : L.length ≤ 300) (hs : ∀ x ∈ L, x.length ≤ 9223372036854775807) :
    Calls Try.prog 7 #[v, .slice none 0 0] w fun e w' => ∃ r, e = .returned (.bool r) ∧ w' = w ∧ (r = false → ∀ x ∈ L, x.length ≤ 16007) := by
  have TO : Hid (_) := textsOf_any L v m w hrow hL hs
  clear hrow hs
  go_enter Try.func7, Try.ntmps7
  go_wp2_with fail
  refine Calls.mono TO.out ?_
  rintro e w1 ⟨r, rfl, rfl, h1, h2⟩
  have H1 : Hid (_) := h1
  clear h1 TO
  go_wp2
  go_loopw [5, 6] (fun t i wr => t = .int .i64 r ∧ i = .int .i64 0 ∧ wr = w1) (fun _ _ _ => 0)
  case atStart => exact ⟨by go_num, rfl, rfl⟩
  case round =>
    obtain ⟨rfl, rfl, rfl⟩ := hrel
    go_wp2
    go_ret
    refine ⟨_, rfl, rfl, fun h => H1.out ?_⟩
    have h9 : (r : Int) ≤ 2000 := by simpa using h
    omega

def toHA (x : HV) : HA := ⟨(x.at_ : Int), x.vo, x.vn, x.old, x.new⟩
theorem haCells_to (xs : List HV) : haCells (xs.map toHA) = hkCells xs := by
  induction xs with
  | nil => rfl
  | cons x r ih => simp [haCells, hkCells, toHA, numV] at ih ⊢; exact ih
theorem h_to (xs : List HV) : (xs.map toHA).map HA.h = (xs.map HV.hk).map Hn.ofHk := by
  induction xs with
  | nil => rfl
  | cons x r ih => simp [toHA, HA.h, HV.hk, Hn.ofHk] at ih ⊢
theorem apply_nil (L : List (List UInt8)) : Hn.apply L [] = if Hn.lines L then .ok L else .error 4 := by
  unfold Hn.apply
  cases h : Hn.lines L with
  | false => rfl
  | true => simp [Hn.sorted, Hn.go, h]
/-- Apply, with no hunks. -/
theorem apply_none (L : List (List UInt8)) (v : Value) (m : Nat) (w : World) (hrow : RowLow m w v L) (hm : m ≤ w.heap.size) (hL : L.length ≤ 300) (hs : ∀ x ∈ L, x.length ≤ 16007) :
    Calls Try.prog 11 #[v, .slice none 0 0] w fun e w' => ∃ ao n cap c, e = .returned (.tuple #[.slice ao n cap, .int .i64 c]) ∧ (Hn.lines L = true ∧ c = 0 ∨ Hn.lines L = false ∧ c = 4) ∧ Below w.heap.size w w' := by
  refine (apply_any L [] v (.slice none 0 0) m w hrow ⟨⟨none, 0, 0, 0, rfl, ⟨Nat.le_refl _, fun _ => rfl⟩, fun h => absurd h (by simp), fun j x hx => by simp [haCells] at hx⟩, fun x hx => by simp at hx⟩ hm (by simp) (by simp) (by simp) (by simp [newSum]; omega) (fun x hx => by have := hs x hx; omega) (by simp)).mono ?_
  rintro e w' ⟨hb, h⟩
  rw [List.map_nil, apply_nil] at h
  cases hl : Hn.lines L with
  | false =>
    rw [hl] at h
    exact ⟨none, 0, 0, _, h, .inr ⟨rfl, rfl⟩, hb⟩
  | true =>
    rw [hl] at h
    obtain ⟨tv, h1, h2⟩ := h
    obtain ⟨a, c, rfl⟩ := slice_shape h2
    exact ⟨a, _, c, _, h1, .inl ⟨rfl, rfl⟩, hb⟩
/-- The hunks that diff tells, with their sizes. -/
theorem hv_sizes {A B : List (List UInt8)} (hA : A.length ≤ 300) (hB : B.length ≤ 300) {xs : List HV} (h : xs.map HV.hk = Df.hunks A B) : xs.length ≤ 301 ∧ ∀ x ∈ xs, x.at_ ≤ 301 ∧ (x.old.length ≤ 300 ∧ x.new.length ≤ 300) ∧ (∀ s ∈ x.old, s ∈ A) ∧ ∀ s ∈ x.new, s ∈ B := by
  have hl := congrArg List.length h
  rw [List.length_map] at hl
  have hc : (Df.common A B).length ≤ 300 := by rw [Df.common_length A B (by omega) (by omega)]; exact Nat.le_trans (Df.lc_le_left A B) hA
  have key : ∀ (ps : List (Nat × Nat)) (i j : Nat), (Df.hks A B i j ps).length ≤ ps.length := by
    intro ps
    induction ps with
    | nil => intro i j; simp [Df.hks]
    | cons p ps ih =>
      intro i j
      have := ih (p.1 + 1) (p.2 + 1)
      simp only [Df.hks, List.length_append, List.length_cons]
      split <;> simp <;> omega
  have h1 := key (Df.common A B ++ [(A.length, B.length)]) 0 0
  rw [List.length_append, List.length_singleton] at h1
  refine ⟨by rw [hl]; exact Nat.le_trans h1 (by omega), fun x hx => ?_⟩
  have hm : x.hk ∈ Df.hunks A B := by rw [← h]; exact List.mem_map_of_mem hx
  obtain ⟨p, q, j', e1, e2, e3⟩ := Hn.hks_mem A B _ 0 0 x.hk hm
  have e1' : x.old = Df.part A x.at_ p := e1
  have e2' : x.new = Df.part B j' q := e2
  have e3' : x.at_ = 0 ∨ ∃ z ∈ Df.common A B ++ [(A.length, B.length)], x.at_ = z.1 + 1 := e3
  refine ⟨?_, ⟨?_, ?_⟩, ?_, ?_⟩
  · rcases e3' with e | ⟨z, hz, e⟩
    · omega
    · rcases List.mem_append.1 hz with hz | hz
      · have := ((Df.common_ok A B).lt z hz).1; omega
      · rw [List.mem_singleton] at hz; subst hz; simp only at e; omega
  · rw [e1']; simp [Df.part]; omega
  · rw [e2']; simp [Df.part]; omega
  · intro s hs
    rw [e1'] at hs
    exact List.mem_of_mem_drop (List.mem_of_mem_take hs)
  · intro s hs
    rw [e2'] at hs
    exact List.mem_of_mem_drop (List.mem_of_mem_take hs)

set_option maxRecDepth 100000 in
set_option maxHeartbeats 8000000 in
theorem diffs_law (A B : List (List UInt8)) (va vb : Value) (w : World) (ha : RowLow w.heap.size w va A) (hb : RowLow w.heap.size w vb B)
    (lA : A.length ≤ 9223372036854775807) (lB : B.length ≤ 9223372036854775807) (sA : ∀ x ∈ A, x.length ≤ 9223372036854775807) (sB : ∀ x ∈ B, x.length ≤ 9223372036854775807) :
    Calls Try.prog 6 #[va, vb] w fun e w' => e = .returned (.bool true) ∧ Below w.heap.size w w' := by
  have RA : Hid (RowLow w.heap.size w va A) := ha
  have RB : Hid (RowLow w.heap.size w vb B) := hb
  have SA : Hid (_) := sA
  have SB : Hid (_) := sB
  obtain ⟨a1, c1, b1, o1, rfl, -, -, -⟩ := ha.parts
  obtain ⟨a2, c2, b2, o2, rfl, -, -, -⟩ := hb.parts
  clear ha hb sA sB
  go_enter Try.func6, Try.ntmps6
  go_wp2_with fail
  refine (hawake_any w).mono ?_
  rintro e w1 ⟨rfl, bw1⟩
  have B1 : Hid (Below w.heap.size w w1) := bw1
  clear bw1
  by_cases hA : A.length ≤ 300
  · have q1 : decide ((300 : Int) < (A.length : Int)) = false := by simp; omega
    have q1' : decide (300 < A.length) = false := by simp; omega
    by_cases hB : B.length ≤ 300
    · have q2 : decide ((300 : Int) < (B.length : Int)) = false := by simp; omega
      have q2' : decide (300 < B.length) = false := by simp; omega
      have RA1 : Hid (_) := RowLow.below RA.out B1.out (Nat.le_refl _)
      have RB1 : Hid (_) := RowLow.below RB.out B1.out (Nat.le_refl _)
      have G1 : Hid (_) := great_nil A _ _ w1 RA1.out hA SA.out
      have G2 : Hid (_) := great_nil B _ _ w1 RB1.out hB SB.out
      have s1 : Hid (w.heap.size ≤ w1.heap.size) := B1.out.size
      go_wp2_with fail
      refine Calls.mono G1.out ?_
      rintro e w2 ⟨r1, rfl, rfl, h1⟩
      cases r1 with
      | true =>
        clear G1 G2 h1
        go_wp2
        go_ret
        exact ⟨rfl, B1.out⟩
      | false =>
        have H1 : Hid (∀ x ∈ A, x.length ≤ 16007) := h1 rfl
        clear G1 h1
        go_wp2_with fail
        refine Calls.mono G2.out ?_
        rintro e w3 ⟨r2, rfl, rfl, h2⟩
        cases r2 with
        | true =>
          clear G2 h2
          go_wp2
          go_ret
          exact ⟨rfl, B1.out⟩
        | false =>
          have H2 : Hid (∀ x ∈ B, x.length ≤ 16007) := h2 rfl
          clear G2 h2
          have P1 : Hid (_) := apply_none A _ _ w3 RA1.out s1.out hA H1.out
          go_wp2_with fail
          refine Calls.mono P1.out ?_
          rintro e w4 ⟨ao4, n4, c4, k4, rfl, hk4, bw4⟩
          have HK4 : Hid (_) := hk4
          clear hk4
          have B4 : Hid (Below w.heap.size w w4) := Below.trans B1.out (bw4.mono s1.out)
          have P2 : Hid (_) := apply_none B _ _ w4 (RowLow.below RB.out B4.out (Nat.le_refl _)) B4.out.size hB H2.out
          clear P1 bw4 RA1 RB1 s1 B1
          go_wp2_with fail
          refine Calls.mono P2.out ?_
          rintro e w5 ⟨ao5, n5, c5, k5, rfl, hk5, bw5⟩
          have B5 : Hid (Below w.heap.size w w5) := Below.trans B4.out (bw5.mono B4.out.size)
          clear P2 bw5 B4
          rcases HK4.out with ⟨hla, e4⟩ | ⟨-, e4⟩
          · have HLA : Hid (Hn.lines A = true) := hla
            subst e4
            clear hla HK4
            rcases hk5 with ⟨hlb, e5⟩ | ⟨-, e5⟩
            · have HLB : Hid (Hn.lines B = true) := hlb
              subst e5
              clear hlb
              have RA5 : Hid (_) := RowLow.below RA.out B5.out (Nat.le_refl _)
              have RB5 : Hid (_) := RowLow.below RB.out B5.out (Nat.le_refl _)
              have HU : Hid (_) := hunks_any A B _ _ w5 (RowLow.mono RA5.out B5.out.size) (RowLow.mono RB5.out B5.out.size) (by omega) (by omega) (fun x hx => by have := H1.out x hx; omega) (fun x hx => by have := H2.out x hx; omega)
              go_wp2_with fail
              refine Calls.mono HU.out ?_
              rintro e w6 ⟨v6, xs, rfl, hxs, -, o6, k6, bw6⟩
              have B6 : Hid (Below w.heap.size w w6) := Below.trans B5.out (bw6.mono B5.out.size)
              obtain ⟨z1, z2⟩ := hv_sizes hA hB hxs
              obtain ⟨d1, d2⟩ := Hn.diffs A B HLA.out HLB.out (by omega) (by omega)
              have hmap : (xs.map toHA).map HA.h = (Df.hunks A B).map Hn.ofHk := by rw [h_to, hxs]
              have low6 : HaLow w6.heap.size w6 v6 (xs.map toHA) := by
                refine ⟨?_, fun x hx => ?_⟩
                · rw [haCells_to, List.length_map]; exact CellsLow.of_owns o6
                · obtain ⟨y, hy, rfl⟩ := List.mem_map.1 hx
                  exact ⟨RowLow.of_owns (k6 y hy).1, RowLow.of_owns (k6 y hy).2⟩
              have fits6 : ∀ x ∈ xs.map toHA, x.Fits := fun x hx => by
                obtain ⟨y, hy, rfl⟩ := List.mem_map.1 hx
                obtain ⟨y1, ⟨y2, y3⟩, y4, y5⟩ := z2 y hy
                exact ⟨⟨by show _ ≤ (y.at_ : Int); omega, by show (y.at_ : Int) ≤ _; omega⟩, ⟨by show y.old.length ≤ _; omega, by show y.new.length ≤ _; omega⟩, fun s hs => by have := H1.out s (y4 s hs); omega, fun s hs => by have := H2.out s (y5 s hs); omega⟩
              have small6 : ∀ x ∈ xs.map toHA, x.Small := fun x hx => by
                obtain ⟨y, hy, rfl⟩ := List.mem_map.1 hx
                obtain ⟨y1, ⟨y2, y3⟩, -⟩ := z2 y hy
                exact ⟨by show y.old.length ≤ _; omega, by show y.new.length ≤ _; omega⟩
              have hns : newSum (xs.map toHA) ≤ xs.length * 300 := by
                clear hxs o6 k6 z1 hmap low6 fits6 small6
                induction xs with
                | nil => simp [newSum]
                | cons x r ih =>
                  have h1 := ih (fun y hy => z2 y (by simp [hy]))
                  have h2 := (z2 x (by simp)).2.1.2
                  simp only [newSum, List.map_cons, List.sum_cons, List.length_cons] at h1 ⊢
                  have h3 : (toHA x).new.length = x.new.length := rfl
                  omega
              have AP0 := apply_any A (xs.map toHA) _ v6 w6.heap.size w6 ((RowLow.mono (RowLow.below RA.out B6.out (Nat.le_refl _)) B6.out.size)) low6 (Nat.le_refl _) fits6 small6 (by rw [List.length_map]; omega) (by omega) (fun x hx => by have := H1.out x hx; omega) (fun x hx s hs => by
                obtain ⟨y, hy, rfl⟩ := List.mem_map.1 hx
                have := H2.out s ((z2 y hy).2.2.2 s hs); omega)
              rw [hmap, d2] at AP0
              have AP : Hid (_) := AP0
              have SO : Hid (∀ W, Below w6.heap.size w6 W → Calls Try.prog 19 #[v6] W fun e w' => e = .returned (.bool true) ∧ Below W.heap.size W w') := fun W hW => by
                have h9 := sorted_any (xs.map toHA) v6 w6.heap.size W (low6.below hW (Nat.le_refl _)) hW.size fits6 small6 (by rw [List.length_map]; omega)
                rw [hmap, d1] at h9
                exact h9
              clear HU hxs o6 k6 bw6 z1 z2 d1 d2 hmap low6 fits6 small6 hns AP0 B5 RA5 RB5
              go_wp2_with fail
              refine Calls.mono AP.out ?_
              rintro e w7 ⟨bw7, t7, rfl, o7⟩
              have B67 : Hid (Below w6.heap.size w6 w7) := bw7
              have T7 : Hid (RowLow w7.heap.size w7 t7 B) := RowLow.of_owns o7
              obtain ⟨ta, tc, rfl⟩ := slice_shape o7
              clear AP bw7 o7
              go_wp2_with fail
              refine Calls.mono (SO.out w7 B67.out) ?_
              rintro e w8 ⟨rfl, bw8⟩
              have B8 : Hid (Below w.heap.size w w8) := Below.trans B6.out ((below_then B67.out bw8).mono B6.out.size)
              have SM : Hid (_) := same_yes w8 _ _ B w8.heap.size (RowLow.mono (RowLow.below RB.out B8.out (Nat.le_refl _)) B8.out.size) (RowLow.at T7.out bw8) (by omega)
              clear SO bw8 T7 B67 B6
              go_wp2_with fail
              refine Calls.mono SM.out ?_
              rintro e w9 ⟨rfl, d9, hw9⟩
              have B9 : Hid (Below w.heap.size w w9) := by rw [hw9]; exact below_drewN B8.out d9
              clear SM hw9 B8
              go_wp2
              go_ret
              exact ⟨rfl, B9.out⟩
            · subst e5
              go_wp2
              go_ret
              exact ⟨rfl, B5.out⟩
          · subst e4
            clear hk5 HK4
            go_wp2
            go_ret
            exact ⟨rfl, B5.out⟩
    · have q2 : decide ((300 : Int) < (B.length : Int)) = true := by simp; omega
      have q2' : decide (300 < B.length) = true := by simp; omega
      go_wp2
      go_ret
      exact ⟨rfl, B1.out⟩
  · have q1 : decide ((300 : Int) < (A.length : Int)) = true := by simp; omega
    have q1' : decide (300 < A.length) = true := by simp; omega
    go_wp2
    go_ret
    exact ⟨rfl, B1.out⟩

end Go.Proofs.Ytpcinbfelikgpaa
