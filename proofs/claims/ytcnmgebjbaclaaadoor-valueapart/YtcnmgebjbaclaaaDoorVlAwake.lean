/-
  The walk of awake: the chapter's examples.
-/
import Derived.Test.YtcnmgebjbaclaaaDoorVlText2
namespace Go.Proofs.YtcnmgebjbaclaaaDoor
open Go.RowKit Go.Shelf
open Vl (V Res)

attribute [local go_sem] Oper.semAt_some

set_option maxRecDepth 100000 in
set_option maxHeartbeats 8000000 in
theorem whole_any (n : Int) (w : World) : Calls Tryd.prog 18 #[.int .i64 n] w fun e w' => e = .returned (vV 1 n nilV) ∧ Below w.heap.size w w' := by
  go_enter Tryd.func18, Tryd.ntmps18
  go_wp2
  refine bodyPost_ret (v := vV 1 n nilV) ?_ rfl ⟨rfl, below_new w _⟩
  simp [results, Tryd.results18, go_sem]
set_option maxRecDepth 100000 in
set_option maxHeartbeats 8000000 in
theorem ltruth_any (n : Int) (w : World) : Calls Tryd.prog 19 #[.int .i64 n] w fun e w' => e = .returned (vV 2 n nilV) ∧ Below w.heap.size w w' := by
  go_enter Tryd.func19, Tryd.ntmps19
  go_wp2
  refine bodyPost_ret (v := vV 2 n nilV) ?_ rfl ⟨rfl, below_new w _⟩
  simp [results, Tryd.results19, go_sem]
set_option maxRecDepth 100000 in
set_option maxHeartbeats 8000000 in
theorem lrow_any (ao : Option Addr) (l c : Nat) (w : World) : Calls Tryd.prog 20 #[.slice ao l c] w fun e w' => e = .returned (vV 3 0 (.slice ao l c)) ∧ Below w.heap.size w w' := by
  go_enter Tryd.func20, Tryd.ntmps20
  go_wp2
  refine bodyPost_ret (v := vV 3 0 (.slice ao l c)) ?_ rfl ⟨rfl, below_new w _⟩
  simp [results, Tryd.results20, go_sem]
/-- A value without a row. -/
abbrev va0 (k n : Int) : VA := ⟨k, n, nilV, []⟩
theorem low0 (N : Nat) (w : World) (k n : Int) : (va0 k n).Low N w := ⟨⟨none, 0, 0, 0, rfl, ⟨Nat.le_refl _, fun _ => rfl⟩, fun h => absurd h (by simp), (fun j x hx => by cases hx)⟩, by simp⟩
theorem bin0_any (q : List UInt8) (hq : q.length ≤ 1000000) (k n k' n' : Int) (r : Res) (hr : Vl.bin q ⟨k, n, []⟩ ⟨k', n', []⟩ = r) (w : World) :
    Calls Tryd.prog 23 #[.string (Ln.bs q), vV k n nilV, vV k' n' nilV] w fun e w' => e = .returned (.tuple #[vV r.k r.n nilV, .int .i64 r.e]) ∧ Below w.heap.size w w' := by
  subst hr
  exact binary_any q hq (va0 k n) (va0 k' n') w (low0 _ w k n) (low0 _ w k' n')
theorem un0_any (q : List UInt8) (hq : q.length ≤ 1000000) (k n : Int) (r : Res) (hr : Vl.un q ⟨k, n, []⟩ = r) (w : World) :
    Calls Tryd.prog 22 #[.string (Ln.bs q), vV k n nilV] w fun e w' => e = .returned (.tuple #[vV r.k r.n nilV, .int .i64 r.e]) ∧ Below w.heap.size w w' := by
  subst hr
  exact unary_any q hq (va0 k n) w (low0 _ w k n)
theorem same0_any (k n k' n' : Int) (r : Bool) (hr : Vl.same ⟨k, n, []⟩ ⟨k', n', []⟩ = r) (w : World) :
    Calls Tryd.prog 25 #[vV k n nilV, vV k' n' nilV] w fun e w' => e = .returned (.bool r) ∧ Below w.heap.size w w' := by
  subst hr
  exact sameValue_any w _ _ (va0 k n).v (va0 k' n').v (low0 _ w k n).vat (low0 _ w k' n').vat (by simp [VA.v]) (by simp [VA.v])
theorem fit0 (k n : Int) (h0 : 0 ≤ k ∧ k ≤ 255) (h1 : -9223372036854775808 ≤ n ∧ n ≤ 9223372036854775807) : V.Fit (va0 k n).v := ⟨h0.1, h0.2, h1.1, h1.2, (fun x hx => by cases hx), by simp [VA.v]⟩

theorem dig3 : Lib.itoa 3 = [51] := by simp [Lib.itoa, Lib.decDigits]
theorem dig1 : Lib.itoa 1 = [49] := by simp [Lib.itoa, Lib.decDigits]
theorem dig2 : Lib.itoa 2 = [50] := by simp [Lib.itoa, Lib.decDigits]
theorem texts3 : Vl.texts [⟨1, 3, []⟩, ⟨2, 1, []⟩, ⟨3, 0, [1, 2]⟩] = [51, 32, 116, 114, 117, 101, 32, 91, 49, 32, 50, 93] := by
  have t1 : Vl.text ⟨1, 3, []⟩ = [51] := by
    show (if Vl.right ⟨1, 3, []⟩ = false then [63] else if (1 : Int) = 1 then Lib.itoa 3 else _) = _
    rw [if_neg (by decide), if_pos rfl, dig3]
  have t2 : Vl.text ⟨2, 1, []⟩ = [116, 114, 117, 101] := by rfl
  have t3 : Vl.text ⟨3, 0, [1, 2]⟩ = [91, 49, 32, 50, 93] := by
    show (if Vl.right ⟨3, 0, [1, 2]⟩ = false then [63] else if (3 : Int) = 1 then Lib.itoa 0 else if (3 : Int) = 2 then _ else [91] ++ Vl.join ([1, 2].map Lib.itoa) ++ [93]) = _
    rw [if_neg (by decide), if_neg (by decide), if_neg (by decide), List.map_cons, List.map_cons, List.map_nil, dig1, dig2]
    rfl
  unfold Vl.texts
  rw [List.map_cons, List.map_cons, List.map_cons, List.map_nil, t1, t2, t3]
  rfl
theorem awake_text (Z : World) (rb r1 : Nat) (hrow : Z.heap[rb]? = some (.cells #[.int .u8 1, .int .i64 3, .slice none 0 0, .int .u8 2, .int .i64 1, .slice none 0 0, .int .u8 3, .int .i64 0, .slice (some ⟨r1, 0, none⟩) 2 2] 25 (0, 0)))
    (hr1 : Z.heap[r1]? = some (.cells #[.int .i64 1, .int .i64 2] 2 (0, 0))) (ht : TabW Z) :
    Calls Tryd.prog 15 #[.slice (some ⟨rb, 0, none⟩) 3 3] Z fun e w' => e = .returned (.string ⟨#[51, 32, 116, 114, 117, 101, 32, 91, 49, 32, 50, 93]⟩) ∧ Below Z.heap.size Z w' := by
  have hl2 : (⟨3, 0, .slice (some ⟨r1, 0, none⟩) 2 2, [1, 2]⟩ : VA).Low Z.heap.size Z := ⟨⟨_, 2, r1, 0, rfl, ⟨by simp, fun e => by cases e⟩, fun _ => ⟨rfl, (Array.getElem?_eq_some_iff.1 hr1).1⟩, fun j x hx => by rw [Nat.zero_add]; exact vcells_at hr1 (by simpa using hx)⟩, by simp⟩
  have hvs : VsLow Z.heap.size Z (.slice (some ⟨rb, 0, none⟩) 3 3) [va0 1 3, va0 2 1, ⟨3, 0, .slice (some ⟨r1, 0, none⟩) 2 2, [1, 2]⟩] := ⟨⟨_, 3, rb, 0, rfl, ⟨by simp, fun e => by cases e⟩, fun _ => ⟨rfl, (Array.getElem?_eq_some_iff.1 hrow).1⟩, fun j x hx => by rw [Nat.zero_add]; exact vcells_at hrow (by simpa [vaCells, VA.cells] using hx)⟩, fun x hx => by
    rcases List.mem_cons.1 hx with rfl | hx
    · exact low0 _ _ _ _
    · rcases List.mem_cons.1 hx with rfl | hx
      · exact low0 _ _ _ _
      · rw [List.mem_singleton] at hx; subst hx; exact hl2⟩
  have h := Text_any _ _ Z hvs (by simp) (fun x hx => by
    rcases List.mem_cons.1 hx with rfl | hx
    · exact fit0 _ _ (by decide) (by decide)
    · rcases List.mem_cons.1 hx with rfl | hx
      · exact fit0 _ _ (by decide) (by decide)
      · rw [List.mem_singleton] at hx; subst hx
        exact ⟨by simp [VA.v], by simp [VA.v], by simp [VA.v], by simp [VA.v], (fun y hy => by
          rcases List.mem_cons.1 hy with rfl | hy
          · decide
          · rw [List.mem_singleton] at hy; subst hy; decide), by simp [VA.v]⟩) ht
  refine h.mono ?_
  rintro e w' ⟨rfl, hb⟩
  refine ⟨?_, hb⟩
  show Ending.returned (.string (Ln.bs (Vl.texts [⟨1, 3, []⟩, ⟨2, 1, []⟩, ⟨3, 0, [1, 2]⟩]))) = _
  rw [texts3]
  rfl

set_option maxRecDepth 100000 in
set_option maxHeartbeats 8000000 in
theorem awake_any (w : World) (ht : TabW w) : Calls Tryd.prog 8 #[] w fun e w' => e = .returned (.bool true) ∧ Below w.heap.size w w' := by
  have HT : Hid (TabW w) := ht
  have B1 : Hid (∀ W, Calls Tryd.prog 23 #[.string ⟨#[37]⟩, vV 1 (-7) nilV, vV 1 3 nilV] W fun e w' => e = .returned (.tuple #[vV 1 (-1) nilV, .int .i64 0]) ∧ Below W.heap.size W w') := fun W => bin0_any [37] (by decide) 1 (-7) 1 3 (.int (-1)) (by rfl) W
  have B2 : Hid (∀ W, Calls Tryd.prog 23 #[.string ⟨#[61, 61]⟩, vV 1 1 nilV, vV 2 1 nilV] W fun e w' => e = .returned (.tuple #[vV 2 0 nilV, .int .i64 0]) ∧ Below W.heap.size W w') := fun W => bin0_any [61, 61] (by decide) 1 1 2 1 (.bool false) (by rfl) W
  have B3 : Hid (∀ W, Calls Tryd.prog 23 #[.string ⟨#[43]⟩, vV 1 1 nilV, vV 2 1 nilV] W fun e w' => e = .returned (.tuple #[vV 0 0 nilV, .int .i64 200]) ∧ Below W.heap.size W w') := fun W => bin0_any [43] (by decide) 1 1 2 1 (.err 200) (by rfl) W
  have U1 : Hid (∀ W, Calls Tryd.prog 22 #[.string ⟨#[45]⟩, vV 1 (-9223372036854775808) nilV] W fun e w' => e = .returned (.tuple #[vV 1 (-9223372036854775808) nilV, .int .i64 0]) ∧ Below W.heap.size W w') := fun W => un0_any [45] (by decide) 1 (-9223372036854775808) (.int (-9223372036854775808)) (by rfl) W
  clear ht
  refine (callsIn_wide (n := 3)).1 ?_
  refine callsIn_of_wp Tryd.func8 rfl trivial ?_ rfl
  simp only [Tryd.ntmps8, List.size_toArray, List.length_nil, Nat.reduceSub, Array.replicate_succ, Array.replicate_zero, List.push_toArray, List.append_toArray, List.nil_append, List.cons_append]
  have HB0 : Hid (Below w.heap.size w w) := Below.refl _ _
  gi_wp2
  refine ⟨trivial, ?_⟩
  refine (callsIn_wide.2 (whole_any (-7) _)).mono ?_
  rintro e w1 ⟨rfl, hb⟩
  have HB1 : Hid (Below w.heap.size w w1) := below_then HB0.out hb
  clear hb
  gi_wp2
  refine ⟨trivial, ?_⟩
  refine (callsIn_wide.2 (whole_any 3 _)).mono ?_
  rintro e w2 ⟨rfl, hb⟩
  have HB2 : Hid (Below w.heap.size w w2) := below_then HB1.out hb
  clear hb
  gi_wp2
  refine ⟨trivial, ?_⟩
  refine (callsIn_wide.2 (B1.out _)).mono ?_
  rintro e w3 ⟨rfl, hb⟩
  have HB3 : Hid (Below w.heap.size w w3) := below_then HB2.out hb
  clear hb
  gi_wp2
  refine ⟨trivial, ?_⟩
  obtain ⟨X3, hX3⟩ : ∃ X, X = w3.alloc (.cells #[.int .u8 1, .int .i64 (-1), .slice none 0 0] 25) := ⟨_, rfl⟩
  rw [← hX3]
  have HX3 : Hid (Below w3.heap.size w3 X3 ∧ X3.heap[w3.heap.size]? = some (.cells #[.int .u8 1, .int .i64 (-1), .slice none 0 0] 25 (0, 0))) := by rw [hX3]; exact ⟨below_new _ _, World.alloc_heap_new _ _⟩
  clear hX3
  have HB3 : Hid (Below w.heap.size w X3) := below_then HB3.out HX3.out.1
  refine (callsIn_wide.2 (whole_any 1 _)).mono ?_
  rintro e w4 ⟨rfl, hb⟩
  have HB4 : Hid (Below w.heap.size w w4) := below_then HB3.out hb
  have HC3 : Hid (w4.heap[w3.heap.size]? = some (.cells #[.int .u8 1, .int .i64 (-1), .slice none 0 0] 25 (0, 0))) := (hb.block _ (Array.getElem?_eq_some_iff.1 HX3.out.2).1).trans HX3.out.2
  clear hb
  gi_wp2
  refine ⟨trivial, ?_⟩
  refine (callsIn_wide.2 (ltruth_any 1 _)).mono ?_
  rintro e w5 ⟨rfl, hb⟩
  have HB5 : Hid (Below w.heap.size w w5) := below_then HB4.out hb
  have HC3 : Hid (w5.heap[w3.heap.size]? = some (.cells #[.int .u8 1, .int .i64 (-1), .slice none 0 0] 25 (0, 0))) := (hb.block _ (Array.getElem?_eq_some_iff.1 HC3.out).1).trans HC3.out
  clear hb
  gi_wp2
  refine ⟨trivial, ?_⟩
  refine (callsIn_wide.2 (B2.out _)).mono ?_
  rintro e w6 ⟨rfl, hb⟩
  have HB6 : Hid (Below w.heap.size w w6) := below_then HB5.out hb
  have HC3 : Hid (w6.heap[w3.heap.size]? = some (.cells #[.int .u8 1, .int .i64 (-1), .slice none 0 0] 25 (0, 0))) := (hb.block _ (Array.getElem?_eq_some_iff.1 HC3.out).1).trans HC3.out
  clear hb
  gi_wp2
  refine ⟨trivial, ?_⟩
  obtain ⟨X6, hX6⟩ : ∃ X, X = w6.alloc (.cells #[.int .u8 2, .int .i64 (0), .slice none 0 0] 25) := ⟨_, rfl⟩
  rw [← hX6]
  have HX6 : Hid (Below w6.heap.size w6 X6 ∧ X6.heap[w6.heap.size]? = some (.cells #[.int .u8 2, .int .i64 (0), .slice none 0 0] 25 (0, 0))) := by rw [hX6]; exact ⟨below_new _ _, World.alloc_heap_new _ _⟩
  clear hX6
  have HB6 : Hid (Below w.heap.size w X6) := below_then HB6.out HX6.out.1
  have HC3 : Hid (X6.heap[w3.heap.size]? = some (.cells #[.int .u8 1, .int .i64 (-1), .slice none 0 0] 25 (0, 0))) := (HX6.out.1.block _ (Array.getElem?_eq_some_iff.1 HC3.out).1).trans HC3.out
  refine (callsIn_wide.2 (whole_any 1 _)).mono ?_
  rintro e w7 ⟨rfl, hb⟩
  have HB7 : Hid (Below w.heap.size w w7) := below_then HB6.out hb
  have HC3 : Hid (w7.heap[w3.heap.size]? = some (.cells #[.int .u8 1, .int .i64 (-1), .slice none 0 0] 25 (0, 0))) := (hb.block _ (Array.getElem?_eq_some_iff.1 HC3.out).1).trans HC3.out
  have HC6 : Hid (w7.heap[w6.heap.size]? = some (.cells #[.int .u8 2, .int .i64 (0), .slice none 0 0] 25 (0, 0))) := (hb.block _ (Array.getElem?_eq_some_iff.1 HX6.out.2).1).trans HX6.out.2
  clear hb
  gi_wp2
  refine ⟨trivial, ?_⟩
  refine (callsIn_wide.2 (ltruth_any 1 _)).mono ?_
  rintro e w8 ⟨rfl, hb⟩
  have HB8 : Hid (Below w.heap.size w w8) := below_then HB7.out hb
  have HC3 : Hid (w8.heap[w3.heap.size]? = some (.cells #[.int .u8 1, .int .i64 (-1), .slice none 0 0] 25 (0, 0))) := (hb.block _ (Array.getElem?_eq_some_iff.1 HC3.out).1).trans HC3.out
  have HC6 : Hid (w8.heap[w6.heap.size]? = some (.cells #[.int .u8 2, .int .i64 (0), .slice none 0 0] 25 (0, 0))) := (hb.block _ (Array.getElem?_eq_some_iff.1 HC6.out).1).trans HC6.out
  clear hb
  gi_wp2
  refine ⟨trivial, ?_⟩
  refine (callsIn_wide.2 (B3.out _)).mono ?_
  rintro e w9 ⟨rfl, hb⟩
  have HB9 : Hid (Below w.heap.size w w9) := below_then HB8.out hb
  have HC3 : Hid (w9.heap[w3.heap.size]? = some (.cells #[.int .u8 1, .int .i64 (-1), .slice none 0 0] 25 (0, 0))) := (hb.block _ (Array.getElem?_eq_some_iff.1 HC3.out).1).trans HC3.out
  have HC6 : Hid (w9.heap[w6.heap.size]? = some (.cells #[.int .u8 2, .int .i64 (0), .slice none 0 0] 25 (0, 0))) := (hb.block _ (Array.getElem?_eq_some_iff.1 HC6.out).1).trans HC6.out
  clear hb
  gi_wp2
  refine ⟨trivial, ?_⟩
  obtain ⟨X9, hX9⟩ : ∃ X, X = w9.alloc (.cells #[.int .u8 0, .int .i64 (0), .slice none 0 0] 25) := ⟨_, rfl⟩
  rw [← hX9]
  have HX9 : Hid (Below w9.heap.size w9 X9 ∧ X9.heap[w9.heap.size]? = some (.cells #[.int .u8 0, .int .i64 (0), .slice none 0 0] 25 (0, 0))) := by rw [hX9]; exact ⟨below_new _ _, World.alloc_heap_new _ _⟩
  clear hX9
  have HB9 : Hid (Below w.heap.size w X9) := below_then HB9.out HX9.out.1
  have HC3 : Hid (X9.heap[w3.heap.size]? = some (.cells #[.int .u8 1, .int .i64 (-1), .slice none 0 0] 25 (0, 0))) := (HX9.out.1.block _ (Array.getElem?_eq_some_iff.1 HC3.out).1).trans HC3.out
  have HC6 : Hid (X9.heap[w6.heap.size]? = some (.cells #[.int .u8 2, .int .i64 (0), .slice none 0 0] 25 (0, 0))) := (HX9.out.1.block _ (Array.getElem?_eq_some_iff.1 HC6.out).1).trans HC6.out
  refine (callsIn_wide.2 (whole_any (-9223372036854775808) _)).mono ?_
  rintro e w10 ⟨rfl, hb⟩
  have HB10 : Hid (Below w.heap.size w w10) := below_then HB9.out hb
  have HC3 : Hid (w10.heap[w3.heap.size]? = some (.cells #[.int .u8 1, .int .i64 (-1), .slice none 0 0] 25 (0, 0))) := (hb.block _ (Array.getElem?_eq_some_iff.1 HC3.out).1).trans HC3.out
  have HC6 : Hid (w10.heap[w6.heap.size]? = some (.cells #[.int .u8 2, .int .i64 (0), .slice none 0 0] 25 (0, 0))) := (hb.block _ (Array.getElem?_eq_some_iff.1 HC6.out).1).trans HC6.out
  have HC9 : Hid (w10.heap[w9.heap.size]? = some (.cells #[.int .u8 0, .int .i64 (0), .slice none 0 0] 25 (0, 0))) := (hb.block _ (Array.getElem?_eq_some_iff.1 HX9.out.2).1).trans HX9.out.2
  clear hb
  gi_wp2
  refine ⟨trivial, ?_⟩
  refine (callsIn_wide.2 (U1.out _)).mono ?_
  rintro e w11 ⟨rfl, hb⟩
  have HB11 : Hid (Below w.heap.size w w11) := below_then HB10.out hb
  have HC3 : Hid (w11.heap[w3.heap.size]? = some (.cells #[.int .u8 1, .int .i64 (-1), .slice none 0 0] 25 (0, 0))) := (hb.block _ (Array.getElem?_eq_some_iff.1 HC3.out).1).trans HC3.out
  have HC6 : Hid (w11.heap[w6.heap.size]? = some (.cells #[.int .u8 2, .int .i64 (0), .slice none 0 0] 25 (0, 0))) := (hb.block _ (Array.getElem?_eq_some_iff.1 HC6.out).1).trans HC6.out
  have HC9 : Hid (w11.heap[w9.heap.size]? = some (.cells #[.int .u8 0, .int .i64 (0), .slice none 0 0] 25 (0, 0))) := (hb.block _ (Array.getElem?_eq_some_iff.1 HC9.out).1).trans HC9.out
  clear hb
  gi_wp2
  obtain ⟨X11, hX11⟩ : ∃ X, X = w11.alloc (.cells #[.int .u8 1, .int .i64 (-9223372036854775808), .slice none 0 0] 25) := ⟨_, rfl⟩
  rw [← hX11]
  have HX11 : Hid (Below w11.heap.size w11 X11 ∧ X11.heap[w11.heap.size]? = some (.cells #[.int .u8 1, .int .i64 (-9223372036854775808), .slice none 0 0] 25 (0, 0))) := by rw [hX11]; exact ⟨below_new _ _, World.alloc_heap_new _ _⟩
  clear hX11
  have HB : Hid (Below w.heap.size w X11) := below_then HB11.out HX11.out.1
  have k3 := (HX11.out.1.block _ (Array.getElem?_eq_some_iff.1 HC3.out).1).trans HC3.out
  have k6 := (HX11.out.1.block _ (Array.getElem?_eq_some_iff.1 HC6.out).1).trans HC6.out
  have FB : Hid (∀ z, Below X11.heap.size X11 z → z.cell? ⟨w3.heap.size, 0, none⟩ = some (.int .u8 1) ∧ z.cell? ⟨w3.heap.size, 1, none⟩ = some (.int .i64 (-1)) ∧ z.cell? ⟨w3.heap.size, 2, none⟩ = some (.slice none 0 0) ∧ z.cell? ⟨w6.heap.size, 0, none⟩ = some (.int .u8 2) ∧ z.cell? ⟨w6.heap.size, 1, none⟩ = some (.int .i64 0) ∧ z.cell? ⟨w6.heap.size, 2, none⟩ = some (.slice none 0 0) ∧ z.cell? ⟨w11.heap.size, 0, none⟩ = some (.int .u8 1) ∧ z.cell? ⟨w11.heap.size, 1, none⟩ = some (.int .i64 (-9223372036854775808)) ∧ z.cell? ⟨w11.heap.size, 2, none⟩ = some (.slice none 0 0)) := fun z hz =>
    ⟨cell_some_below (vcells_at k3 rfl) hz, cell_some_below (vcells_at k3 rfl) hz, cell_some_below (vcells_at k3 rfl) hz, cell_some_below (vcells_at k6 rfl) hz, cell_some_below (vcells_at k6 rfl) hz, cell_some_below (vcells_at k6 rfl) hz, cell_some_below (vcells_at HX11.out.2 rfl) hz, cell_some_below (vcells_at HX11.out.2 rfl) hz, cell_some_below (vcells_at HX11.out.2 rfl) hz⟩
  have HTX : Hid (TabW X11) := HT.out.at HB.out
  clear k3 k6 B1 B2 B3 U1 HT
  have D0 : Hid (Below X11.heap.size X11 X11.drew) := below_draw X11 1
  refine region_lex (fun z => Below X11.heap.size X11 z) 4 35 rfl (by kernel_rfl) (by kernel_rfl) (by kernel_rfl) (by kernel_rfl) (fun _ _ d _ _ h => by cases d <;> exact h) D0.out ?_
  simp only [List.take_succ_cons, List.take_zero]
  iterate 4 (first
    | (apply lexC_want
       · rfl
       · exact fun _ => rfl
       · (intro w' hw'; obtain ⟨f1, f2, f3, f4, f5, f6, f7, f8, f9⟩ := FB.out w' hw'; go_simp; try rfl)
       simp only [Act.put, List.setIfInBounds_toArray, List.set_cons_zero, List.set_cons_succ])
    | (apply lexC_skip
       · rfl
       · exact fun _ => rfl
       simp only [Act.put, List.setIfInBounds_toArray, List.set_cons_zero, List.set_cons_succ]))
  refine lexC_nil ?_
  refine anyC_one (i := 4) (by kernel_rfl) rfl (by rfl) (fun K1 hK1 => ?_)
  go_simp
  refine ⟨trivial, ?_⟩
  refine (callsIn_wide.2 (whole_any (-1) _)).mono ?_
  rintro e s1 ⟨rfl, hb⟩
  have D1 : Hid (Below X11.heap.size X11 s1) := below_then D0.out hb
  clear hb
  refine hK1 _ _ D1.out ?_
  refine anyC_one (i := 5) (by kernel_rfl) rfl (by rfl) (fun K2 hK2 => ?_)
  go_simp
  refine ⟨trivial, ?_⟩
  refine (callsIn_wide.2 (same0_any 1 (-1) 1 (-1) true (by rfl) _)).mono ?_
  rintro e s2 ⟨rfl, hb⟩
  have D2 : Hid (Below X11.heap.size X11 s2) := below_then D1.out hb
  clear hb
  refine hK2 _ _ D2.out ?_
  refine anyC_more 6 7 26 33 rfl (by kernel_rfl) rfl (by decide) (by kernel_rfl) (fun _ _ d _ _ h => by cases d <;> exact h) D2.out ?_
  simp only [List.drop_succ_cons, List.drop_zero, List.take_succ_cons, List.take_zero]
  iterate 7 (first
    | (apply lexC_want
       · rfl
       · exact fun _ => rfl
       · (intro w' hw'; obtain ⟨f1, f2, f3, f4, f5, f6, f7, f8, f9⟩ := FB.out w' hw'; go_simp; try rfl)
       simp only [Act.put, List.setIfInBounds_toArray, List.set_cons_zero, List.set_cons_succ])
    | (apply lexC_skip
       · rfl
       · exact fun _ => rfl
       simp only [Act.put, List.setIfInBounds_toArray, List.set_cons_zero, List.set_cons_succ]))
  refine lexC_nil ?_
  refine anyC_one (i := 13) (by kernel_rfl) rfl (by rfl) (fun K3 hK3 => ?_)
  go_simp
  refine ⟨trivial, ?_⟩
  refine (callsIn_wide.2 (ltruth_any 0 _)).mono ?_
  rintro e s3 ⟨rfl, hb⟩
  have D3 : Hid (Below X11.heap.size X11 s3) := below_then D2.out hb
  clear hb
  refine hK3 _ _ D3.out ?_
  refine anyC_one (i := 14) (by kernel_rfl) rfl (by rfl) (fun K4 hK4 => ?_)
  go_simp
  refine ⟨trivial, ?_⟩
  refine (callsIn_wide.2 (same0_any 2 0 2 0 true (by rfl) _)).mono ?_
  rintro e s4 ⟨rfl, hb⟩
  have D4 : Hid (Below X11.heap.size X11 s4) := below_then D3.out hb
  clear hb
  refine hK4 _ _ D4.out ?_
  refine anyC_more 15 11 13 24 rfl (by kernel_rfl) rfl (by decide) (by kernel_rfl) (fun _ _ d _ _ h => by cases d <;> exact h) D4.out ?_
  simp only [List.drop_succ_cons, List.drop_zero, List.take_succ_cons, List.take_zero]
  iterate 11 (first
    | (apply lexC_want
       · rfl
       · exact fun _ => rfl
       · (intro w' hw'; obtain ⟨f1, f2, f3, f4, f5, f6, f7, f8, f9⟩ := FB.out w' hw'; go_simp; try rfl)
       simp only [Act.put, List.setIfInBounds_toArray, List.set_cons_zero, List.set_cons_succ])
    | (apply lexC_skip
       · rfl
       · exact fun _ => rfl
       simp only [Act.put, List.setIfInBounds_toArray, List.set_cons_zero, List.set_cons_succ]))
  refine lexC_nil ?_
  refine anyC_one (i := 26) (by kernel_rfl) rfl (by rfl) (fun K5 hK5 => ?_)
  go_simp
  refine ⟨trivial, ?_⟩
  refine (callsIn_wide.2 (whole_any (-9223372036854775808) _)).mono ?_
  rintro e s5 ⟨rfl, hb⟩
  have D5 : Hid (Below X11.heap.size X11 s5) := below_then D4.out hb
  clear hb
  refine hK5 _ _ D5.out ?_
  refine anyC_one (i := 27) (by kernel_rfl) rfl (by rfl) (fun K6 hK6 => ?_)
  go_simp
  refine ⟨trivial, ?_⟩
  refine (callsIn_wide.2 (same0_any 1 (-9223372036854775808) 1 (-9223372036854775808) true (by rfl) _)).mono ?_
  rintro e s6 ⟨rfl, hb⟩
  have D6 : Hid (Below X11.heap.size X11 s6) := below_then D5.out hb
  clear hb
  refine hK6 _ _ D6.out ?_
  refine anyC_more 28 2 9 11 rfl (by kernel_rfl) rfl (by decide) (by kernel_rfl) (fun _ _ d _ _ h => by cases d <;> exact h) D6.out ?_
  simp only [List.drop_succ_cons, List.drop_zero, List.take_succ_cons, List.take_zero]
  iterate 2 (first
    | (apply lexC_want
       · rfl
       · exact fun _ => rfl
       · (intro w' hw'; obtain ⟨f1, f2, f3, f4, f5, f6, f7, f8, f9⟩ := FB.out w' hw'; go_simp; try rfl)
       simp only [Act.put, List.setIfInBounds_toArray, List.set_cons_zero, List.set_cons_succ])
    | (apply lexC_skip
       · rfl
       · exact fun _ => rfl
       simp only [Act.put, List.setIfInBounds_toArray, List.set_cons_zero, List.set_cons_succ]))
  refine lexC_nil ?_
  clear FB
  refine anyC_two (i := 30) (j := 32) (by kernel_rfl) rfl rfl (by rfl) (by rfl) (fun K7 hK7 => ?_) (fun K7 hK7 => ?_)
  · go_simp
    refine ⟨trivial, ?_⟩
    refine (callsIn_wide.2 (whole_any 3 _)).mono ?_
    rintro e s7 ⟨rfl, hb⟩
    have D7 : Hid (Below X11.heap.size X11 s7) := below_then D6.out hb
    clear hb
    refine hK7 _ _ D7.out ?_
    refine anyC_two (i := 31) (j := 32) (by kernel_rfl) rfl rfl (by rfl) (by rfl) (fun K8 hK8 => ?_) (fun K8 hK8 => ?_)
    · go_simp
      refine ⟨trivial, ?_⟩
      refine (callsIn_wide.2 (ltruth_any 1 _)).mono ?_
      rintro e s8 ⟨rfl, hb⟩
      have D8 : Hid (Below X11.heap.size X11 s8) := below_then D7.out hb
      clear hb
      refine hK8 _ _ D8.out ?_
      refine anyC_one (i := 32) (by kernel_rfl) rfl (by rfl) (fun K9 hK9 => ?_)
      obtain ⟨s9, hs⟩ : ∃ Y, Y = s8.alloc (.cells #[.int .i64 1, .int .i64 2] 2) := ⟨_, rfl⟩
      have hb : Below s8.heap.size s8 s9 := hs ▸ below_new _ _
      have R9 : Hid (s9.heap[s8.heap.size]? = some (.cells #[.int .i64 1, .int .i64 2] 2 (0, 0))) := by rw [hs]; exact World.alloc_heap_new _ _
      have D9 : Hid (Below X11.heap.size X11 s9) := below_then D8.out hb
      go_simp
      rw [← hs]
      clear hb hs
      refine hK9 _ _ D9.out ?_
      refine anyC_one (i := 33) (by kernel_rfl) rfl (by rfl) (fun K10 hK10 => ?_)
      go_simp
      refine ⟨trivial, ?_⟩
      refine (callsIn_wide.2 (lrow_any _ _ _ _)).mono ?_
      rintro e s10 ⟨rfl, hb⟩
      have D10 : Hid (Below X11.heap.size X11 s10) := below_then D9.out hb
      have R10 : Hid (s10.heap[s8.heap.size]? = some (.cells #[.int .i64 1, .int .i64 2] 2 (0, 0))) := (hb.block _ (Array.getElem?_eq_some_iff.1 R9.out).1).trans R9.out
      clear hb
      refine hK10 _ _ D10.out ?_
      refine anyC_one (i := 34) (by kernel_rfl) rfl (by rfl) (fun K11 hK11 => ?_)
      obtain ⟨s11, hs⟩ : ∃ Y, Y = s10.alloc (.cells #[.int .u8 1, .int .i64 3, .slice none 0 0, .int .u8 2, .int .i64 1, .slice none 0 0, .int .u8 3, .int .i64 0, .slice (some ⟨s8.heap.size, 0, none⟩) 2 2] 25) := ⟨_, rfl⟩
      have hb : Below s10.heap.size s10 s11 := hs ▸ below_new _ _
      have hrow : s11.heap[s10.heap.size]? = some (.cells #[.int .u8 1, .int .i64 3, .slice none 0 0, .int .u8 2, .int .i64 1, .slice none 0 0, .int .u8 3, .int .i64 0, .slice (some ⟨s8.heap.size, 0, none⟩) 2 2] 25 (0, 0)) := by rw [hs]; exact World.alloc_heap_new _ _
      have hr1 := (hb.block _ (Array.getElem?_eq_some_iff.1 R10.out).1).trans R10.out
      have D11 : Hid (Below X11.heap.size X11 s11) := below_then D10.out hb
      have HTT : Hid (_) := awake_text s11 s10.heap.size s8.heap.size hrow hr1 (HTX.out.at D11.out)
      go_simp
      rw [← hs]
      clear hb hs hrow hr1
      refine hK11 _ _ D11.out ?_
      refine anyC_one (i := 35) (by kernel_rfl) rfl (by rfl) (fun K12 hK12 => ?_)
      go_simp
      refine ⟨trivial, ?_⟩
      refine (callsIn_wide.2 (HTT.out)).mono ?_
      rintro e s12 ⟨rfl, hb⟩
      have D12 : Hid (Below X11.heap.size X11 s12) := below_then D11.out hb
      clear hb
      refine hK12 _ _ D12.out ?_
      refine anyC_more 36 3 0 3 rfl (by kernel_rfl) rfl (by decide) (by kernel_rfl) (fun _ _ d _ _ h => by cases d <;> exact h) D12.out ?_
      simp only [List.drop_succ_cons, List.drop_zero, List.take_succ_cons, List.take_zero]
      iterate 3 (apply lexC_want
                 · rfl
                 · exact fun _ => rfl
                 · (intro w' hw'; go_simp; try rfl)
                 simp only [Act.put, List.setIfInBounds_toArray, List.set_cons_zero, List.set_cons_succ])
      refine lexC_nil ?_
      refine anyC_done (by kernel_rfl) ?_
      gi_wp2
      exact bodyPost_ret (results_tmp rfl _ _ _) rfl ⟨rfl, below_then HB.out D12.out⟩
    · obtain ⟨s8, hs⟩ : ∃ Y, Y = s7.alloc (.cells #[.int .i64 1, .int .i64 2] 2) := ⟨_, rfl⟩
      have hb : Below s7.heap.size s7 s8 := hs ▸ below_new _ _
      have R8 : Hid (s8.heap[s7.heap.size]? = some (.cells #[.int .i64 1, .int .i64 2] 2 (0, 0))) := by rw [hs]; exact World.alloc_heap_new _ _
      have D8 : Hid (Below X11.heap.size X11 s8) := below_then D7.out hb
      go_simp
      rw [← hs]
      clear hb hs
      refine hK8 _ _ D8.out ?_
      refine anyC_one (i := 31) (by kernel_rfl) rfl (by rfl) (fun K9 hK9 => ?_)
      go_simp
      refine ⟨trivial, ?_⟩
      refine (callsIn_wide.2 (ltruth_any 1 _)).mono ?_
      rintro e s9 ⟨rfl, hb⟩
      have D9 : Hid (Below X11.heap.size X11 s9) := below_then D8.out hb
      have R9 : Hid (s9.heap[s7.heap.size]? = some (.cells #[.int .i64 1, .int .i64 2] 2 (0, 0))) := (hb.block _ (Array.getElem?_eq_some_iff.1 R8.out).1).trans R8.out
      clear hb
      refine hK9 _ _ D9.out ?_
      refine anyC_one (i := 33) (by kernel_rfl) rfl (by rfl) (fun K10 hK10 => ?_)
      go_simp
      refine ⟨trivial, ?_⟩
      refine (callsIn_wide.2 (lrow_any _ _ _ _)).mono ?_
      rintro e s10 ⟨rfl, hb⟩
      have D10 : Hid (Below X11.heap.size X11 s10) := below_then D9.out hb
      have R10 : Hid (s10.heap[s7.heap.size]? = some (.cells #[.int .i64 1, .int .i64 2] 2 (0, 0))) := (hb.block _ (Array.getElem?_eq_some_iff.1 R9.out).1).trans R9.out
      clear hb
      refine hK10 _ _ D10.out ?_
      refine anyC_one (i := 34) (by kernel_rfl) rfl (by rfl) (fun K11 hK11 => ?_)
      obtain ⟨s11, hs⟩ : ∃ Y, Y = s10.alloc (.cells #[.int .u8 1, .int .i64 3, .slice none 0 0, .int .u8 2, .int .i64 1, .slice none 0 0, .int .u8 3, .int .i64 0, .slice (some ⟨s7.heap.size, 0, none⟩) 2 2] 25) := ⟨_, rfl⟩
      have hb : Below s10.heap.size s10 s11 := hs ▸ below_new _ _
      have hrow : s11.heap[s10.heap.size]? = some (.cells #[.int .u8 1, .int .i64 3, .slice none 0 0, .int .u8 2, .int .i64 1, .slice none 0 0, .int .u8 3, .int .i64 0, .slice (some ⟨s7.heap.size, 0, none⟩) 2 2] 25 (0, 0)) := by rw [hs]; exact World.alloc_heap_new _ _
      have hr1 := (hb.block _ (Array.getElem?_eq_some_iff.1 R10.out).1).trans R10.out
      have D11 : Hid (Below X11.heap.size X11 s11) := below_then D10.out hb
      have HTT : Hid (_) := awake_text s11 s10.heap.size s7.heap.size hrow hr1 (HTX.out.at D11.out)
      go_simp
      rw [← hs]
      clear hb hs hrow hr1
      refine hK11 _ _ D11.out ?_
      refine anyC_one (i := 35) (by kernel_rfl) rfl (by rfl) (fun K12 hK12 => ?_)
      go_simp
      refine ⟨trivial, ?_⟩
      refine (callsIn_wide.2 (HTT.out)).mono ?_
      rintro e s12 ⟨rfl, hb⟩
      have D12 : Hid (Below X11.heap.size X11 s12) := below_then D11.out hb
      clear hb
      refine hK12 _ _ D12.out ?_
      refine anyC_more 36 3 0 3 rfl (by kernel_rfl) rfl (by decide) (by kernel_rfl) (fun _ _ d _ _ h => by cases d <;> exact h) D12.out ?_
      simp only [List.drop_succ_cons, List.drop_zero, List.take_succ_cons, List.take_zero]
      iterate 3 (apply lexC_want
                 · rfl
                 · exact fun _ => rfl
                 · (intro w' hw'; go_simp; try rfl)
                 simp only [Act.put, List.setIfInBounds_toArray, List.set_cons_zero, List.set_cons_succ])
      refine lexC_nil ?_
      refine anyC_done (by kernel_rfl) ?_
      gi_wp2
      exact bodyPost_ret (results_tmp rfl _ _ _) rfl ⟨rfl, below_then HB.out D12.out⟩
  · obtain ⟨s7, hs⟩ : ∃ Y, Y = s6.alloc (.cells #[.int .i64 1, .int .i64 2] 2) := ⟨_, rfl⟩
    have hb : Below s6.heap.size s6 s7 := hs ▸ below_new _ _
    have R7 : Hid (s7.heap[s6.heap.size]? = some (.cells #[.int .i64 1, .int .i64 2] 2 (0, 0))) := by rw [hs]; exact World.alloc_heap_new _ _
    have D7 : Hid (Below X11.heap.size X11 s7) := below_then D6.out hb
    go_simp
    rw [← hs]
    clear hb hs
    refine hK7 _ _ D7.out ?_
    refine anyC_one (i := 30) (by kernel_rfl) rfl (by rfl) (fun K8 hK8 => ?_)
    go_simp
    refine ⟨trivial, ?_⟩
    refine (callsIn_wide.2 (whole_any 3 _)).mono ?_
    rintro e s8 ⟨rfl, hb⟩
    have D8 : Hid (Below X11.heap.size X11 s8) := below_then D7.out hb
    have R8 : Hid (s8.heap[s6.heap.size]? = some (.cells #[.int .i64 1, .int .i64 2] 2 (0, 0))) := (hb.block _ (Array.getElem?_eq_some_iff.1 R7.out).1).trans R7.out
    clear hb
    refine hK8 _ _ D8.out ?_
    refine anyC_one (i := 31) (by kernel_rfl) rfl (by rfl) (fun K9 hK9 => ?_)
    go_simp
    refine ⟨trivial, ?_⟩
    refine (callsIn_wide.2 (ltruth_any 1 _)).mono ?_
    rintro e s9 ⟨rfl, hb⟩
    have D9 : Hid (Below X11.heap.size X11 s9) := below_then D8.out hb
    have R9 : Hid (s9.heap[s6.heap.size]? = some (.cells #[.int .i64 1, .int .i64 2] 2 (0, 0))) := (hb.block _ (Array.getElem?_eq_some_iff.1 R8.out).1).trans R8.out
    clear hb
    refine hK9 _ _ D9.out ?_
    refine anyC_one (i := 33) (by kernel_rfl) rfl (by rfl) (fun K10 hK10 => ?_)
    go_simp
    refine ⟨trivial, ?_⟩
    refine (callsIn_wide.2 (lrow_any _ _ _ _)).mono ?_
    rintro e s10 ⟨rfl, hb⟩
    have D10 : Hid (Below X11.heap.size X11 s10) := below_then D9.out hb
    have R10 : Hid (s10.heap[s6.heap.size]? = some (.cells #[.int .i64 1, .int .i64 2] 2 (0, 0))) := (hb.block _ (Array.getElem?_eq_some_iff.1 R9.out).1).trans R9.out
    clear hb
    refine hK10 _ _ D10.out ?_
    refine anyC_one (i := 34) (by kernel_rfl) rfl (by rfl) (fun K11 hK11 => ?_)
    obtain ⟨s11, hs⟩ : ∃ Y, Y = s10.alloc (.cells #[.int .u8 1, .int .i64 3, .slice none 0 0, .int .u8 2, .int .i64 1, .slice none 0 0, .int .u8 3, .int .i64 0, .slice (some ⟨s6.heap.size, 0, none⟩) 2 2] 25) := ⟨_, rfl⟩
    have hb : Below s10.heap.size s10 s11 := hs ▸ below_new _ _
    have hrow : s11.heap[s10.heap.size]? = some (.cells #[.int .u8 1, .int .i64 3, .slice none 0 0, .int .u8 2, .int .i64 1, .slice none 0 0, .int .u8 3, .int .i64 0, .slice (some ⟨s6.heap.size, 0, none⟩) 2 2] 25 (0, 0)) := by rw [hs]; exact World.alloc_heap_new _ _
    have hr1 := (hb.block _ (Array.getElem?_eq_some_iff.1 R10.out).1).trans R10.out
    have D11 : Hid (Below X11.heap.size X11 s11) := below_then D10.out hb
    have HTT : Hid (_) := awake_text s11 s10.heap.size s6.heap.size hrow hr1 (HTX.out.at D11.out)
    go_simp
    rw [← hs]
    clear hb hs hrow hr1
    refine hK11 _ _ D11.out ?_
    refine anyC_one (i := 35) (by kernel_rfl) rfl (by rfl) (fun K12 hK12 => ?_)
    go_simp
    refine ⟨trivial, ?_⟩
    refine (callsIn_wide.2 (HTT.out)).mono ?_
    rintro e s12 ⟨rfl, hb⟩
    have D12 : Hid (Below X11.heap.size X11 s12) := below_then D11.out hb
    clear hb
    refine hK12 _ _ D12.out ?_
    refine anyC_more 36 3 0 3 rfl (by kernel_rfl) rfl (by decide) (by kernel_rfl) (fun _ _ d _ _ h => by cases d <;> exact h) D12.out ?_
    simp only [List.drop_succ_cons, List.drop_zero, List.take_succ_cons, List.take_zero]
    iterate 3 (apply lexC_want
               · rfl
               · exact fun _ => rfl
               · (intro w' hw'; go_simp; try rfl)
               simp only [Act.put, List.setIfInBounds_toArray, List.set_cons_zero, List.set_cons_succ])
    refine lexC_nil ?_
    refine anyC_done (by kernel_rfl) ?_
    gi_wp2
    exact bodyPost_ret (results_tmp rfl _ _ _) rfl ⟨rfl, below_then HB.out D12.out⟩
end Go.Proofs.YtcnmgebjbaclaaaDoor
