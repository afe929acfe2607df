/-
  The walks of the document's answers: known, Bool, Int, compared, reckoned, Unary, Binary.
-/
import Derived.Test.YtcnmgebjbaclaaaDoorVlAwake
namespace Go.Proofs.YtcnmgebjbaclaaaDoor
open Go.RowKit Go.Shelf
open Vl (V Res)

attribute [local go_sem] Oper.semAt_some

theorem lit_beq (q l : List UInt8) : ((Ln.bs q).toList == (Ln.bs l).toList) = decide (q = l) := bs_beq q l
theorem lit_beq' (q l : List UInt8) : ((Ln.bs q).toList == l) = decide (q = l) := by
  rw [Lib.toList_data, Ln.bs_toList, Bool.eq_iff_iff]; simp
theorem wrap_eq (z : Int) : wrap64 z = Vl.wrap z := by simp [Vl.wrap, wrap64]
theorem place_le (q : List UInt8) : ∀ l : List (List UInt8), Vl.place l q ≤ l.length ∧ (Vl.place l q < l.length → l[Vl.place l q]? = some q) ∧ (∀ j, j < Vl.place l q → l[j]? ≠ some q)
  | [] => ⟨Nat.le_refl _, fun h => absurd h (Nat.lt_irrefl _), fun j h => absurd h (Nat.not_lt_zero _)⟩
  | x :: r => by
    obtain ⟨h1, h2, h3⟩ := place_le q r
    unfold Vl.place
    by_cases h : x = q
    · rw [if_pos h]
      exact ⟨Nat.zero_le _, fun _ => by rw [h]; rfl, fun j hj => absurd hj (Nat.not_lt_zero _)⟩
    · rw [if_neg h]
      refine ⟨by simp; omega, fun hl => by simpa using h2 (by simpa using hl), fun j hj => ?_⟩
      cases j with
      | zero => simpa using h
      | succ j => simpa using h3 j (by omega)

set_option maxRecDepth 100000 in
set_option maxHeartbeats 8000000 in
theorem known_any (q : List UInt8) (w : World) : Calls Tryd.prog 39 #[.string (Ln.bs q)] w fun e w' => e = .returned (.bool (decide (Vl.opOf q < 13))) ∧ Below w.heap.size w w' := by
  obtain ⟨X, hX⟩ : ∃ X, X = w.alloc (.cells #[.string ⟨#[124, 124]⟩, .string ⟨#[38, 38]⟩, .string ⟨#[61, 61]⟩, .string ⟨#[33, 61]⟩, .string ⟨#[60]⟩, .string ⟨#[60, 61]⟩, .string ⟨#[62]⟩, .string ⟨#[62, 61]⟩, .string ⟨#[43]⟩, .string ⟨#[45]⟩, .string ⟨#[42]⟩, .string ⟨#[47]⟩, .string ⟨#[37]⟩] 9) := ⟨_, rfl⟩
  have hb : Below w.heap.size w X := hX ▸ below_new w _
  have hcells : ∀ k t, Vl.signs[k]? = some t → X.cell? ⟨w.heap.size, k, none⟩ = some (.string (Ln.bs t)) := fun k t ht => by
    rw [hX]
    have h0 := World.alloc_heap_new w (.cells (Vl.signs.map txtV).toArray 9)
    exact vcells_at (c := (Vl.signs.map txtV).toArray) h0 (by rw [List.getElem?_toArray, List.getElem?_map, ht]; rfl)
  have HC : Hid (_) := hcells
  have HB : Hid (Below w.heap.size w X) := hb
  obtain ⟨P1, P2, P3⟩ := place_le q Vl.signs
  have HP : Hid (Vl.opOf q ≤ 13 ∧ (Vl.opOf q < 13 → Vl.signs[Vl.opOf q]? = some q) ∧ (∀ j, j < Vl.opOf q → Vl.signs[j]? ≠ some q)) := ⟨P1, P2, P3⟩
  clear hcells hb P1 P2 P3
  go_enter Tryd.func39, Tryd.ntmps39
  go_wp2
  rw [← hX]
  clear hX
  go_loop [4] (fun i => ∃ k : Nat, k ≤ 13 ∧ k ≤ Vl.opOf q ∧ i = .int .i64 k) (fun i => 13 - (intOf i).toNat)
  case atStart => exact ⟨0, Nat.zero_le _, Nat.zero_le _, rfl⟩
  case round =>
    obtain ⟨k, hk, hko, rfl⟩ := hrel
    by_cases hlt : k < 13
    · obtain ⟨t, ht⟩ : ∃ t, Vl.signs[k]? = some t := ⟨Vl.signs[k]'hlt, List.getElem?_eq_getElem hlt⟩
      have g0 := HC.out k t ht
      by_cases hq : t = q
      · have hbq : ((Ln.bs t).toList == (Ln.bs q).toList) = true := by rw [lit_beq]; exact decide_eq_true hq
        have HE : Hid (decide (Vl.opOf q < 13) = true) := by
          show decide _ = true
          refine decide_eq_true ?_
          rcases Nat.lt_or_ge k (Vl.opOf q) with h | h
          · exact absurd (ht.trans (by rw [hq])) (HP.out.2.2 k h)
          · omega
        clear ht hq
        go_wp2
        go_ret
        exact ⟨ret_bool HE.out.symm, HB.out⟩
      · have hbq : ((Ln.bs t).toList == (Ln.bs q).toList) = false := by rw [lit_beq]; exact decide_eq_false hq
        have HK : Hid (k + 1 ≤ Vl.opOf q) := by
          show k + 1 ≤ Vl.opOf q
          rcases Nat.lt_or_ge k (Vl.opOf q) with h | h
          · exact h
          · have he : Vl.opOf q = k := by omega
            have := HP.out.2.1 (by omega)
            rw [he, ht] at this
            injection this with this
            exact absurd this hq
        clear ht hq
        go_wp2
        go_round
        case rel => exact ⟨k + 1, by omega, HK.out, by go_num⟩
        case measure => simp [intOf]; omega
    · have HE : Hid (decide (Vl.opOf q < 13) = false) := by show decide _ = false; exact decide_eq_false (by omega)
      have hk13 : k = 13 := by omega
      clear hko
      subst hk13
      go_wp2
      go_ret
      exact ⟨ret_bool HE.out.symm, HB.out⟩
set_option maxRecDepth 100000 in
set_option maxHeartbeats 8000000 in
theorem rbool_any (b : Bool) (w : World) : Calls Tryd.prog 40 #[.bool b] w fun e w' => e = .returned (vV 2 (Vl.one b) nilV) ∧ Below w.heap.size w w' := by
  cases b
  · go_enter Tryd.func40, Tryd.ntmps40
    go_wp2
    refine bodyPost_ret (v := vV 2 0 nilV) ?_ rfl ⟨rfl, below_new w _⟩
    simp [results, Tryd.results40, go_sem]
  · go_enter Tryd.func40, Tryd.ntmps40
    go_wp2
    refine bodyPost_ret (v := vV 2 1 nilV) ?_ rfl ⟨rfl, below_new w _⟩
    simp [results, Tryd.results40, go_sem]
set_option maxRecDepth 100000 in
set_option maxHeartbeats 8000000 in
theorem rint_any (n : Int) (w : World) : Calls Tryd.prog 42 #[.int .i64 n] w fun e w' => e = .returned (vV 1 n nilV) ∧ Below w.heap.size w w' := by
  go_enter Tryd.func42, Tryd.ntmps42
  go_wp2
  refine bodyPost_ret (v := vV 1 n nilV) ?_ rfl ⟨rfl, below_new w _⟩
  simp [results, Tryd.results42, go_sem]
set_option maxRecDepth 100000 in
set_option maxHeartbeats 8000000 in
theorem compared4 (x y : Int) (w : World) : Calls Tryd.prog 72 #[.string (Ln.bs [60]), .int .i64 x, .int .i64 y] w fun e w' => e = .returned (.tuple #[.bool (decide (x < y)), .bool true]) ∧ w' = w := by
  have f0 : ((Ln.bs [60]).toList == [60]) = true := (lit_beq' [60] [60]).trans (by decide)
  have f1 : ((Ln.bs [60]).toList == [60, 61]) = false := (lit_beq' [60] [60, 61]).trans (by decide)
  have f2 : ((Ln.bs [60]).toList == [62]) = false := (lit_beq' [60] [62]).trans (by decide)
  have f3 : ((Ln.bs [60]).toList == [62, 61]) = false := (lit_beq' [60] [62, 61]).trans (by decide)
  go_enter Tryd.func72, Tryd.ntmps72
  go_wp2
  refine bodyPost_ret (v := .tuple #[.bool (decide (x < y)), .bool true]) ?_ rfl ⟨rfl, rfl⟩
  simp [results, Tryd.results72]
set_option maxRecDepth 100000 in
set_option maxHeartbeats 8000000 in
theorem compared5 (x y : Int) (w : World) : Calls Tryd.prog 72 #[.string (Ln.bs [60, 61]), .int .i64 x, .int .i64 y] w fun e w' => e = .returned (.tuple #[.bool (decide (x ≤ y)), .bool true]) ∧ w' = w := by
  have f0 : ((Ln.bs [60, 61]).toList == [60]) = false := (lit_beq' [60, 61] [60]).trans (by decide)
  have f1 : ((Ln.bs [60, 61]).toList == [60, 61]) = true := (lit_beq' [60, 61] [60, 61]).trans (by decide)
  have f2 : ((Ln.bs [60, 61]).toList == [62]) = false := (lit_beq' [60, 61] [62]).trans (by decide)
  have f3 : ((Ln.bs [60, 61]).toList == [62, 61]) = false := (lit_beq' [60, 61] [62, 61]).trans (by decide)
  go_enter Tryd.func72, Tryd.ntmps72
  go_wp2
  refine bodyPost_ret (v := .tuple #[.bool (decide (x ≤ y)), .bool true]) ?_ rfl ⟨rfl, rfl⟩
  simp [results, Tryd.results72]
set_option maxRecDepth 100000 in
set_option maxHeartbeats 8000000 in
theorem compared6 (x y : Int) (w : World) : Calls Tryd.prog 72 #[.string (Ln.bs [62]), .int .i64 x, .int .i64 y] w fun e w' => e = .returned (.tuple #[.bool (decide (y < x)), .bool true]) ∧ w' = w := by
  have f0 : ((Ln.bs [62]).toList == [60]) = false := (lit_beq' [62] [60]).trans (by decide)
  have f1 : ((Ln.bs [62]).toList == [60, 61]) = false := (lit_beq' [62] [60, 61]).trans (by decide)
  have f2 : ((Ln.bs [62]).toList == [62]) = true := (lit_beq' [62] [62]).trans (by decide)
  have f3 : ((Ln.bs [62]).toList == [62, 61]) = false := (lit_beq' [62] [62, 61]).trans (by decide)
  go_enter Tryd.func72, Tryd.ntmps72
  go_wp2
  refine bodyPost_ret (v := .tuple #[.bool (decide (y < x)), .bool true]) ?_ rfl ⟨rfl, rfl⟩
  simp [results, Tryd.results72]
set_option maxRecDepth 100000 in
set_option maxHeartbeats 8000000 in
theorem compared7 (x y : Int) (w : World) : Calls Tryd.prog 72 #[.string (Ln.bs [62, 61]), .int .i64 x, .int .i64 y] w fun e w' => e = .returned (.tuple #[.bool (decide (y ≤ x)), .bool true]) ∧ w' = w := by
  have f0 : ((Ln.bs [62, 61]).toList == [60]) = false := (lit_beq' [62, 61] [60]).trans (by decide)
  have f1 : ((Ln.bs [62, 61]).toList == [60, 61]) = false := (lit_beq' [62, 61] [60, 61]).trans (by decide)
  have f2 : ((Ln.bs [62, 61]).toList == [62]) = false := (lit_beq' [62, 61] [62]).trans (by decide)
  have f3 : ((Ln.bs [62, 61]).toList == [62, 61]) = true := (lit_beq' [62, 61] [62, 61]).trans (by decide)
  go_enter Tryd.func72, Tryd.ntmps72
  go_wp2
  refine bodyPost_ret (v := .tuple #[.bool (decide (y ≤ x)), .bool true]) ?_ rfl ⟨rfl, rfl⟩
  simp [results, Tryd.results72]
set_option maxRecDepth 100000 in
set_option maxHeartbeats 8000000 in
theorem compared8 (x y : Int) (w : World) : Calls Tryd.prog 72 #[.string (Ln.bs [43]), .int .i64 x, .int .i64 y] w fun e w' => e = .returned (.tuple #[.bool false, .bool false]) ∧ w' = w := by
  have f0 : ((Ln.bs [43]).toList == [60]) = false := (lit_beq' [43] [60]).trans (by decide)
  have f1 : ((Ln.bs [43]).toList == [60, 61]) = false := (lit_beq' [43] [60, 61]).trans (by decide)
  have f2 : ((Ln.bs [43]).toList == [62]) = false := (lit_beq' [43] [62]).trans (by decide)
  have f3 : ((Ln.bs [43]).toList == [62, 61]) = false := (lit_beq' [43] [62, 61]).trans (by decide)
  go_enter Tryd.func72, Tryd.ntmps72
  go_wp2
  refine bodyPost_ret (v := .tuple #[.bool false, .bool false]) ?_ rfl ⟨rfl, rfl⟩
  simp [results, Tryd.results72]
set_option maxRecDepth 100000 in
set_option maxHeartbeats 8000000 in
theorem compared9 (x y : Int) (w : World) : Calls Tryd.prog 72 #[.string (Ln.bs [45]), .int .i64 x, .int .i64 y] w fun e w' => e = .returned (.tuple #[.bool false, .bool false]) ∧ w' = w := by
  have f0 : ((Ln.bs [45]).toList == [60]) = false := (lit_beq' [45] [60]).trans (by decide)
  have f1 : ((Ln.bs [45]).toList == [60, 61]) = false := (lit_beq' [45] [60, 61]).trans (by decide)
  have f2 : ((Ln.bs [45]).toList == [62]) = false := (lit_beq' [45] [62]).trans (by decide)
  have f3 : ((Ln.bs [45]).toList == [62, 61]) = false := (lit_beq' [45] [62, 61]).trans (by decide)
  go_enter Tryd.func72, Tryd.ntmps72
  go_wp2
  refine bodyPost_ret (v := .tuple #[.bool false, .bool false]) ?_ rfl ⟨rfl, rfl⟩
  simp [results, Tryd.results72]
set_option maxRecDepth 100000 in
set_option maxHeartbeats 8000000 in
theorem compared10 (x y : Int) (w : World) : Calls Tryd.prog 72 #[.string (Ln.bs [42]), .int .i64 x, .int .i64 y] w fun e w' => e = .returned (.tuple #[.bool false, .bool false]) ∧ w' = w := by
  have f0 : ((Ln.bs [42]).toList == [60]) = false := (lit_beq' [42] [60]).trans (by decide)
  have f1 : ((Ln.bs [42]).toList == [60, 61]) = false := (lit_beq' [42] [60, 61]).trans (by decide)
  have f2 : ((Ln.bs [42]).toList == [62]) = false := (lit_beq' [42] [62]).trans (by decide)
  have f3 : ((Ln.bs [42]).toList == [62, 61]) = false := (lit_beq' [42] [62, 61]).trans (by decide)
  go_enter Tryd.func72, Tryd.ntmps72
  go_wp2
  refine bodyPost_ret (v := .tuple #[.bool false, .bool false]) ?_ rfl ⟨rfl, rfl⟩
  simp [results, Tryd.results72]
set_option maxRecDepth 100000 in
set_option maxHeartbeats 8000000 in
theorem compared11 (x y : Int) (w : World) : Calls Tryd.prog 72 #[.string (Ln.bs [47]), .int .i64 x, .int .i64 y] w fun e w' => e = .returned (.tuple #[.bool false, .bool false]) ∧ w' = w := by
  have f0 : ((Ln.bs [47]).toList == [60]) = false := (lit_beq' [47] [60]).trans (by decide)
  have f1 : ((Ln.bs [47]).toList == [60, 61]) = false := (lit_beq' [47] [60, 61]).trans (by decide)
  have f2 : ((Ln.bs [47]).toList == [62]) = false := (lit_beq' [47] [62]).trans (by decide)
  have f3 : ((Ln.bs [47]).toList == [62, 61]) = false := (lit_beq' [47] [62, 61]).trans (by decide)
  go_enter Tryd.func72, Tryd.ntmps72
  go_wp2
  refine bodyPost_ret (v := .tuple #[.bool false, .bool false]) ?_ rfl ⟨rfl, rfl⟩
  simp [results, Tryd.results72]
set_option maxRecDepth 100000 in
set_option maxHeartbeats 8000000 in
theorem compared12 (x y : Int) (w : World) : Calls Tryd.prog 72 #[.string (Ln.bs [37]), .int .i64 x, .int .i64 y] w fun e w' => e = .returned (.tuple #[.bool false, .bool false]) ∧ w' = w := by
  have f0 : ((Ln.bs [37]).toList == [60]) = false := (lit_beq' [37] [60]).trans (by decide)
  have f1 : ((Ln.bs [37]).toList == [60, 61]) = false := (lit_beq' [37] [60, 61]).trans (by decide)
  have f2 : ((Ln.bs [37]).toList == [62]) = false := (lit_beq' [37] [62]).trans (by decide)
  have f3 : ((Ln.bs [37]).toList == [62, 61]) = false := (lit_beq' [37] [62, 61]).trans (by decide)
  go_enter Tryd.func72, Tryd.ntmps72
  go_wp2
  refine bodyPost_ret (v := .tuple #[.bool false, .bool false]) ?_ rfl ⟨rfl, rfl⟩
  simp [results, Tryd.results72]
set_option maxRecDepth 100000 in
set_option maxHeartbeats 8000000 in
theorem rreckoned4 (x y : Int) (w : World) : Calls Tryd.prog 41 #[.string (Ln.bs [60]), .int .i64 x, .int .i64 y] w fun e w' => RTold (Vl.makes 4 ⟨1, x, []⟩ ⟨1, y, []⟩) e ∧ Below w.heap.size w w' := by
  have b0 : Below w.heap.size w (w.alloc (.cells #[.int .u8 0, .int .i64 0, .slice none 0 0] 25)) := below_new w _
  have h0 : (w.alloc (.cells #[.int .u8 0, .int .i64 0, .slice none 0 0] 25)).heap[w.heap.size]? = some (.cells #[.int .u8 0, .int .i64 0, .slice none 0 0] 25 (0, 0)) := World.alloc_heap_new w _
  have H0 : Hid (_) := And.intro b0 (And.intro h0 (Array.getElem?_eq_some_iff.1 h0).1)
  clear b0 h0
  go_enter Tryd.func41, Tryd.ntmps41
  go_wp2_with fail
  refine Calls.mono (compared4 x y _) ?_
  rintro e w1 ⟨rfl, rfl⟩
  go_wp2_with fail
  refine Calls.mono (rbool_any _ _) ?_
  rintro e w2 ⟨rfl, hb⟩
  have hw := (hb.block _ H0.out.2.2).trans H0.out.2.1
  have HB2 : Hid (Below w.heap.size w w2) := below_then H0.out.1 hb
  clear hb
  obtain ⟨zf, d0, d1, d2, Q, hQ, e0, e1, e2, hb3⟩ := rdoor hw (.int .u8 2) (.int .i64 (Vl.one (decide (x < y)))) (.slice none 0 0)
  have HQB : Hid (Below w.heap.size w Q) := HB2.out.trans (hb3.mono (Nat.le_refl _))
  clear hb3
  go_wp2
  rw [← hQ]
  clear hQ d0 d1 d2 zf
  refine bodyPost_ret (v := .tuple #[vV 2 (Vl.one (decide (x < y))) nilV, .int .i64 (0)]) ?_ rfl ⟨rfl, HQB.out⟩
  simp [results, Tryd.results41, go_sem, e0, e1, e2]
set_option maxRecDepth 100000 in
set_option maxHeartbeats 8000000 in
theorem rreckoned5 (x y : Int) (w : World) : Calls Tryd.prog 41 #[.string (Ln.bs [60, 61]), .int .i64 x, .int .i64 y] w fun e w' => RTold (Vl.makes 5 ⟨1, x, []⟩ ⟨1, y, []⟩) e ∧ Below w.heap.size w w' := by
  have b0 : Below w.heap.size w (w.alloc (.cells #[.int .u8 0, .int .i64 0, .slice none 0 0] 25)) := below_new w _
  have h0 : (w.alloc (.cells #[.int .u8 0, .int .i64 0, .slice none 0 0] 25)).heap[w.heap.size]? = some (.cells #[.int .u8 0, .int .i64 0, .slice none 0 0] 25 (0, 0)) := World.alloc_heap_new w _
  have H0 : Hid (_) := And.intro b0 (And.intro h0 (Array.getElem?_eq_some_iff.1 h0).1)
  clear b0 h0
  go_enter Tryd.func41, Tryd.ntmps41
  go_wp2_with fail
  refine Calls.mono (compared5 x y _) ?_
  rintro e w1 ⟨rfl, rfl⟩
  go_wp2_with fail
  refine Calls.mono (rbool_any _ _) ?_
  rintro e w2 ⟨rfl, hb⟩
  have hw := (hb.block _ H0.out.2.2).trans H0.out.2.1
  have HB2 : Hid (Below w.heap.size w w2) := below_then H0.out.1 hb
  clear hb
  obtain ⟨zf, d0, d1, d2, Q, hQ, e0, e1, e2, hb3⟩ := rdoor hw (.int .u8 2) (.int .i64 (Vl.one (decide (x ≤ y)))) (.slice none 0 0)
  have HQB : Hid (Below w.heap.size w Q) := HB2.out.trans (hb3.mono (Nat.le_refl _))
  clear hb3
  go_wp2
  rw [← hQ]
  clear hQ d0 d1 d2 zf
  refine bodyPost_ret (v := .tuple #[vV 2 (Vl.one (decide (x ≤ y))) nilV, .int .i64 (0)]) ?_ rfl ⟨rfl, HQB.out⟩
  simp [results, Tryd.results41, go_sem, e0, e1, e2]
set_option maxRecDepth 100000 in
set_option maxHeartbeats 8000000 in
theorem rreckoned6 (x y : Int) (w : World) : Calls Tryd.prog 41 #[.string (Ln.bs [62]), .int .i64 x, .int .i64 y] w fun e w' => RTold (Vl.makes 6 ⟨1, x, []⟩ ⟨1, y, []⟩) e ∧ Below w.heap.size w w' := by
  have b0 : Below w.heap.size w (w.alloc (.cells #[.int .u8 0, .int .i64 0, .slice none 0 0] 25)) := below_new w _
  have h0 : (w.alloc (.cells #[.int .u8 0, .int .i64 0, .slice none 0 0] 25)).heap[w.heap.size]? = some (.cells #[.int .u8 0, .int .i64 0, .slice none 0 0] 25 (0, 0)) := World.alloc_heap_new w _
  have H0 : Hid (_) := And.intro b0 (And.intro h0 (Array.getElem?_eq_some_iff.1 h0).1)
  clear b0 h0
  go_enter Tryd.func41, Tryd.ntmps41
  go_wp2_with fail
  refine Calls.mono (compared6 x y _) ?_
  rintro e w1 ⟨rfl, rfl⟩
  go_wp2_with fail
  refine Calls.mono (rbool_any _ _) ?_
  rintro e w2 ⟨rfl, hb⟩
  have hw := (hb.block _ H0.out.2.2).trans H0.out.2.1
  have HB2 : Hid (Below w.heap.size w w2) := below_then H0.out.1 hb
  clear hb
  obtain ⟨zf, d0, d1, d2, Q, hQ, e0, e1, e2, hb3⟩ := rdoor hw (.int .u8 2) (.int .i64 (Vl.one (decide (y < x)))) (.slice none 0 0)
  have HQB : Hid (Below w.heap.size w Q) := HB2.out.trans (hb3.mono (Nat.le_refl _))
  clear hb3
  go_wp2
  rw [← hQ]
  clear hQ d0 d1 d2 zf
  refine bodyPost_ret (v := .tuple #[vV 2 (Vl.one (decide (y < x))) nilV, .int .i64 (0)]) ?_ rfl ⟨rfl, HQB.out⟩
  simp [results, Tryd.results41, go_sem, e0, e1, e2]
set_option maxRecDepth 100000 in
set_option maxHeartbeats 8000000 in
theorem rreckoned7 (x y : Int) (w : World) : Calls Tryd.prog 41 #[.string (Ln.bs [62, 61]), .int .i64 x, .int .i64 y] w fun e w' => RTold (Vl.makes 7 ⟨1, x, []⟩ ⟨1, y, []⟩) e ∧ Below w.heap.size w w' := by
  have b0 : Below w.heap.size w (w.alloc (.cells #[.int .u8 0, .int .i64 0, .slice none 0 0] 25)) := below_new w _
  have h0 : (w.alloc (.cells #[.int .u8 0, .int .i64 0, .slice none 0 0] 25)).heap[w.heap.size]? = some (.cells #[.int .u8 0, .int .i64 0, .slice none 0 0] 25 (0, 0)) := World.alloc_heap_new w _
  have H0 : Hid (_) := And.intro b0 (And.intro h0 (Array.getElem?_eq_some_iff.1 h0).1)
  clear b0 h0
  go_enter Tryd.func41, Tryd.ntmps41
  go_wp2_with fail
  refine Calls.mono (compared7 x y _) ?_
  rintro e w1 ⟨rfl, rfl⟩
  go_wp2_with fail
  refine Calls.mono (rbool_any _ _) ?_
  rintro e w2 ⟨rfl, hb⟩
  have hw := (hb.block _ H0.out.2.2).trans H0.out.2.1
  have HB2 : Hid (Below w.heap.size w w2) := below_then H0.out.1 hb
  clear hb
  obtain ⟨zf, d0, d1, d2, Q, hQ, e0, e1, e2, hb3⟩ := rdoor hw (.int .u8 2) (.int .i64 (Vl.one (decide (y ≤ x)))) (.slice none 0 0)
  have HQB : Hid (Below w.heap.size w Q) := HB2.out.trans (hb3.mono (Nat.le_refl _))
  clear hb3
  go_wp2
  rw [← hQ]
  clear hQ d0 d1 d2 zf
  refine bodyPost_ret (v := .tuple #[vV 2 (Vl.one (decide (y ≤ x))) nilV, .int .i64 (0)]) ?_ rfl ⟨rfl, HQB.out⟩
  simp [results, Tryd.results41, go_sem, e0, e1, e2]
set_option maxRecDepth 100000 in
set_option maxHeartbeats 8000000 in
theorem rreckoned8 (x y : Int) (w : World) : Calls Tryd.prog 41 #[.string (Ln.bs [43]), .int .i64 x, .int .i64 y] w fun e w' => RTold (Vl.makes 8 ⟨1, x, []⟩ ⟨1, y, []⟩) e ∧ Below w.heap.size w w' := by
  have b0 : Below w.heap.size w (w.alloc (.cells #[.int .u8 0, .int .i64 0, .slice none 0 0] 25)) := below_new w _
  have h0 : (w.alloc (.cells #[.int .u8 0, .int .i64 0, .slice none 0 0] 25)).heap[w.heap.size]? = some (.cells #[.int .u8 0, .int .i64 0, .slice none 0 0] 25 (0, 0)) := World.alloc_heap_new w _
  have H0 : Hid (_) := And.intro b0 (And.intro h0 (Array.getElem?_eq_some_iff.1 h0).1)
  clear b0 h0
  have f0 : ((Ln.bs [43]).toList == [43]) = true := (lit_beq' [43] [43]).trans (by decide)
  have f1 : ((Ln.bs [43]).toList == [45]) = false := (lit_beq' [43] [45]).trans (by decide)
  have f2 : ((Ln.bs [43]).toList == [42]) = false := (lit_beq' [43] [42]).trans (by decide)
  have f3 : ((Ln.bs [43]).toList == [47]) = false := (lit_beq' [43] [47]).trans (by decide)
  go_enter Tryd.func41, Tryd.ntmps41
  go_wp2_with fail
  refine Calls.mono (compared8 x y _) ?_
  rintro e w1 ⟨rfl, rfl⟩
  go_wp2_with fail
  refine Calls.mono (rint_any _ _) ?_
  rintro e w2 ⟨rfl, hb⟩
  have hw := (hb.block _ H0.out.2.2).trans H0.out.2.1
  have HB2 : Hid (Below w.heap.size w w2) := below_then H0.out.1 hb
  clear hb
  obtain ⟨zf, d0, d1, d2, Q, hQ, e0, e1, e2, hb3⟩ := rdoor hw (.int .u8 1) (.int .i64 (wrap64 (x + y))) (.slice none 0 0)
  have HQB : Hid (Below w.heap.size w Q) := HB2.out.trans (hb3.mono (Nat.le_refl _))
  clear hb3
  go_wp2
  rw [← hQ]
  clear hQ d0 d1 d2 zf
  refine bodyPost_ret (v := .tuple #[vV 1 (wrap64 (x + y)) nilV, .int .i64 (0)]) ?_ rfl ⟨by rw [wrap_eq]; rfl, HQB.out⟩
  simp [results, Tryd.results41, go_sem, e0, e1, e2]
set_option maxRecDepth 100000 in
set_option maxHeartbeats 8000000 in
theorem rreckoned9 (x y : Int) (w : World) : Calls Tryd.prog 41 #[.string (Ln.bs [45]), .int .i64 x, .int .i64 y] w fun e w' => RTold (Vl.makes 9 ⟨1, x, []⟩ ⟨1, y, []⟩) e ∧ Below w.heap.size w w' := by
  have b0 : Below w.heap.size w (w.alloc (.cells #[.int .u8 0, .int .i64 0, .slice none 0 0] 25)) := below_new w _
  have h0 : (w.alloc (.cells #[.int .u8 0, .int .i64 0, .slice none 0 0] 25)).heap[w.heap.size]? = some (.cells #[.int .u8 0, .int .i64 0, .slice none 0 0] 25 (0, 0)) := World.alloc_heap_new w _
  have H0 : Hid (_) := And.intro b0 (And.intro h0 (Array.getElem?_eq_some_iff.1 h0).1)
  clear b0 h0
  have f0 : ((Ln.bs [45]).toList == [43]) = false := (lit_beq' [45] [43]).trans (by decide)
  have f1 : ((Ln.bs [45]).toList == [45]) = true := (lit_beq' [45] [45]).trans (by decide)
  have f2 : ((Ln.bs [45]).toList == [42]) = false := (lit_beq' [45] [42]).trans (by decide)
  have f3 : ((Ln.bs [45]).toList == [47]) = false := (lit_beq' [45] [47]).trans (by decide)
  go_enter Tryd.func41, Tryd.ntmps41
  go_wp2_with fail
  refine Calls.mono (compared9 x y _) ?_
  rintro e w1 ⟨rfl, rfl⟩
  go_wp2_with fail
  refine Calls.mono (rint_any _ _) ?_
  rintro e w2 ⟨rfl, hb⟩
  have hw := (hb.block _ H0.out.2.2).trans H0.out.2.1
  have HB2 : Hid (Below w.heap.size w w2) := below_then H0.out.1 hb
  clear hb
  obtain ⟨zf, d0, d1, d2, Q, hQ, e0, e1, e2, hb3⟩ := rdoor hw (.int .u8 1) (.int .i64 (wrap64 (x - y))) (.slice none 0 0)
  have HQB : Hid (Below w.heap.size w Q) := HB2.out.trans (hb3.mono (Nat.le_refl _))
  clear hb3
  go_wp2
  rw [← hQ]
  clear hQ d0 d1 d2 zf
  refine bodyPost_ret (v := .tuple #[vV 1 (wrap64 (x - y)) nilV, .int .i64 (0)]) ?_ rfl ⟨by rw [wrap_eq]; rfl, HQB.out⟩
  simp [results, Tryd.results41, go_sem, e0, e1, e2]
set_option maxRecDepth 100000 in
set_option maxHeartbeats 8000000 in
theorem rreckoned10 (x y : Int) (w : World) : Calls Tryd.prog 41 #[.string (Ln.bs [42]), .int .i64 x, .int .i64 y] w fun e w' => RTold (Vl.makes 10 ⟨1, x, []⟩ ⟨1, y, []⟩) e ∧ Below w.heap.size w w' := by
  have b0 : Below w.heap.size w (w.alloc (.cells #[.int .u8 0, .int .i64 0, .slice none 0 0] 25)) := below_new w _
  have h0 : (w.alloc (.cells #[.int .u8 0, .int .i64 0, .slice none 0 0] 25)).heap[w.heap.size]? = some (.cells #[.int .u8 0, .int .i64 0, .slice none 0 0] 25 (0, 0)) := World.alloc_heap_new w _
  have H0 : Hid (_) := And.intro b0 (And.intro h0 (Array.getElem?_eq_some_iff.1 h0).1)
  clear b0 h0
  have f0 : ((Ln.bs [42]).toList == [43]) = false := (lit_beq' [42] [43]).trans (by decide)
  have f1 : ((Ln.bs [42]).toList == [45]) = false := (lit_beq' [42] [45]).trans (by decide)
  have f2 : ((Ln.bs [42]).toList == [42]) = true := (lit_beq' [42] [42]).trans (by decide)
  have f3 : ((Ln.bs [42]).toList == [47]) = false := (lit_beq' [42] [47]).trans (by decide)
  go_enter Tryd.func41, Tryd.ntmps41
  go_wp2_with fail
  refine Calls.mono (compared10 x y _) ?_
  rintro e w1 ⟨rfl, rfl⟩
  go_wp2_with fail
  refine Calls.mono (rint_any _ _) ?_
  rintro e w2 ⟨rfl, hb⟩
  have hw := (hb.block _ H0.out.2.2).trans H0.out.2.1
  have HB2 : Hid (Below w.heap.size w w2) := below_then H0.out.1 hb
  clear hb
  obtain ⟨zf, d0, d1, d2, Q, hQ, e0, e1, e2, hb3⟩ := rdoor hw (.int .u8 1) (.int .i64 (wrap64 (x * y))) (.slice none 0 0)
  have HQB : Hid (Below w.heap.size w Q) := HB2.out.trans (hb3.mono (Nat.le_refl _))
  clear hb3
  go_wp2
  rw [← hQ]
  clear hQ d0 d1 d2 zf
  refine bodyPost_ret (v := .tuple #[vV 1 (wrap64 (x * y)) nilV, .int .i64 (0)]) ?_ rfl ⟨by rw [wrap_eq]; rfl, HQB.out⟩
  simp [results, Tryd.results41, go_sem, e0, e1, e2]
set_option maxRecDepth 100000 in
set_option maxHeartbeats 8000000 in
theorem rreckoned11 (x y : Int) (w : World) : Calls Tryd.prog 41 #[.string (Ln.bs [47]), .int .i64 x, .int .i64 y] w fun e w' => RTold (Vl.makes 11 ⟨1, x, []⟩ ⟨1, y, []⟩) e ∧ Below w.heap.size w w' := by
  have b0 : Below w.heap.size w (w.alloc (.cells #[.int .u8 0, .int .i64 0, .slice none 0 0] 25)) := below_new w _
  have h0 : (w.alloc (.cells #[.int .u8 0, .int .i64 0, .slice none 0 0] 25)).heap[w.heap.size]? = some (.cells #[.int .u8 0, .int .i64 0, .slice none 0 0] 25 (0, 0)) := World.alloc_heap_new w _
  have H0 : Hid (_) := And.intro b0 (And.intro h0 (Array.getElem?_eq_some_iff.1 h0).1)
  clear b0 h0
  have f0 : ((Ln.bs [47]).toList == [43]) = false := (lit_beq' [47] [43]).trans (by decide)
  have f1 : ((Ln.bs [47]).toList == [45]) = false := (lit_beq' [47] [45]).trans (by decide)
  have f2 : ((Ln.bs [47]).toList == [42]) = false := (lit_beq' [47] [42]).trans (by decide)
  have f3 : ((Ln.bs [47]).toList == [47]) = true := (lit_beq' [47] [47]).trans (by decide)
  by_cases hy : y = 0
  · have hm : Vl.makes 11 ⟨1, x, []⟩ ⟨1, y, []⟩ = .err 202 := if_pos hy
    rw [hm]
    have hyb : (y == 0) = true := by simp [hy]
    have HY : Hid (_) := hy
    clear hy hm
    go_enter Tryd.func41, Tryd.ntmps41
    go_wp2_with fail
    refine Calls.mono (compared11 x y _) ?_
    rintro e w1 ⟨rfl, rfl⟩
    go_wp2
    refine bodyPost_ret (v := .tuple #[vV 0 0 nilV, .int .i64 202]) ?_ rfl ⟨rfl, H0.out.1⟩
    simp [results, Tryd.results41, go_sem]
  · have hm : Vl.makes 11 ⟨1, x, []⟩ ⟨1, y, []⟩ = .int (Vl.wrap (x.tdiv y)) := if_neg hy
    rw [hm]
    have hyb : (y == 0) = false := by simpa using hy
    have HY : Hid (y ≠ 0) := hy
    clear hm
    go_enter Tryd.func41, Tryd.ntmps41
    go_wp2_with fail
    refine Calls.mono (compared11 x y _) ?_
    rintro e w1 ⟨rfl, rfl⟩
    go_wp2_with fail
    refine Calls.mono (rint_any _ _) ?_
    rintro e w2 ⟨rfl, hb⟩
    have hw := (hb.block _ H0.out.2.2).trans H0.out.2.1
    have HB2 : Hid (Below w.heap.size w w2) := below_then H0.out.1 hb
    clear hb
    obtain ⟨zf, d0, d1, d2, Q, hQ, e0, e1, e2, hb3⟩ := rdoor hw (.int .u8 1) (.int .i64 (wrap64 (x.tdiv y))) (.slice none 0 0)
    have HQB : Hid (Below w.heap.size w Q) := HB2.out.trans (hb3.mono (Nat.le_refl _))
    clear hb3
    go_wp2
    rw [← hQ]
    clear hQ d0 d1 d2 zf
    refine bodyPost_ret (v := .tuple #[vV 1 (wrap64 (x.tdiv y)) nilV, .int .i64 (0)]) ?_ rfl ⟨by rw [wrap_eq]; rfl, HQB.out⟩
    simp [results, Tryd.results41, go_sem, e0, e1, e2]
set_option maxRecDepth 100000 in
set_option maxHeartbeats 8000000 in
theorem rreckoned12 (x y : Int) (w : World) : Calls Tryd.prog 41 #[.string (Ln.bs [37]), .int .i64 x, .int .i64 y] w fun e w' => RTold (Vl.makes 12 ⟨1, x, []⟩ ⟨1, y, []⟩) e ∧ Below w.heap.size w w' := by
  have b0 : Below w.heap.size w (w.alloc (.cells #[.int .u8 0, .int .i64 0, .slice none 0 0] 25)) := below_new w _
  have h0 : (w.alloc (.cells #[.int .u8 0, .int .i64 0, .slice none 0 0] 25)).heap[w.heap.size]? = some (.cells #[.int .u8 0, .int .i64 0, .slice none 0 0] 25 (0, 0)) := World.alloc_heap_new w _
  have H0 : Hid (_) := And.intro b0 (And.intro h0 (Array.getElem?_eq_some_iff.1 h0).1)
  clear b0 h0
  have f0 : ((Ln.bs [37]).toList == [43]) = false := (lit_beq' [37] [43]).trans (by decide)
  have f1 : ((Ln.bs [37]).toList == [45]) = false := (lit_beq' [37] [45]).trans (by decide)
  have f2 : ((Ln.bs [37]).toList == [42]) = false := (lit_beq' [37] [42]).trans (by decide)
  have f3 : ((Ln.bs [37]).toList == [47]) = false := (lit_beq' [37] [47]).trans (by decide)
  by_cases hy : y = 0
  · have hm : Vl.makes 12 ⟨1, x, []⟩ ⟨1, y, []⟩ = .err 202 := if_pos hy
    rw [hm]
    have hyb : (y == 0) = true := by simp [hy]
    have HY : Hid (_) := hy
    clear hy hm
    go_enter Tryd.func41, Tryd.ntmps41
    go_wp2_with fail
    refine Calls.mono (compared12 x y _) ?_
    rintro e w1 ⟨rfl, rfl⟩
    go_wp2
    refine bodyPost_ret (v := .tuple #[vV 0 0 nilV, .int .i64 202]) ?_ rfl ⟨rfl, H0.out.1⟩
    simp [results, Tryd.results41, go_sem]
  · have hm : Vl.makes 12 ⟨1, x, []⟩ ⟨1, y, []⟩ = .int (x.tmod y) := if_neg hy
    rw [hm]
    have hyb : (y == 0) = false := by simpa using hy
    have HY : Hid (y ≠ 0) := hy
    clear hm
    go_enter Tryd.func41, Tryd.ntmps41
    go_wp2_with fail
    refine Calls.mono (compared12 x y _) ?_
    rintro e w1 ⟨rfl, rfl⟩
    go_wp2_with fail
    refine Calls.mono (rint_any _ _) ?_
    rintro e w2 ⟨rfl, hb⟩
    have hw := (hb.block _ H0.out.2.2).trans H0.out.2.1
    have HB2 : Hid (Below w.heap.size w w2) := below_then H0.out.1 hb
    clear hb
    obtain ⟨zf, d0, d1, d2, Q, hQ, e0, e1, e2, hb3⟩ := rdoor hw (.int .u8 1) (.int .i64 (x.tmod y)) (.slice none 0 0)
    have HQB : Hid (Below w.heap.size w Q) := HB2.out.trans (hb3.mono (Nat.le_refl _))
    clear hb3
    go_wp2
    rw [← hQ]
    clear hQ d0 d1 d2 zf
    refine bodyPost_ret (v := .tuple #[vV 1 (x.tmod y) nilV, .int .i64 (0)]) ?_ rfl ⟨rfl, HQB.out⟩
    simp [results, Tryd.results41, go_sem, e0, e1, e2]
end Go.Proofs.YtcnmgebjbaclaaaDoor
