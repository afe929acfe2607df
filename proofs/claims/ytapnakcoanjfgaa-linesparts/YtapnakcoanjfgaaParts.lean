/-
  Proved here: clerestorylaw01.LinesParts returns true for every text and any two counts, and its arguments read behind the call as they read before (the whole statement Rows.LinesPartsSaid, no condition).
-/
import Derived.Test.YtapnakcoanjfgaaJoin
import Derived.ProofKit
import Derived.OpenShut
import Derived.ShutString
import Derived.Deep.RegionHeld3
import Derived.Deep.DrawnRows
namespace Go.Proofs.Ytapnakcoanjfgaa.linesParts
open Go.ChangeShapes Go.WideShapes Go.ChangeAt Go.RowKit
open Go.ChangeMaps (open_string shut_string)

attribute [local go_sem ↓] Go.wp_at_zero Go.wp_at_succ

theorem own : ownKnob Try.prog.godebug = none := by kernel_rfl

set_option maxRecDepth 100000 in
set_option maxHeartbeats 1000000 in
theorem walk_big (a0 : ByteArray) (n m : Int) (w0 : a0.size ≤ maxLen) (w : World) (hbig : 5000 < a0.size) :
    Calls Try.prog 7 #[.string a0, .int .i64 n, .int .i64 m] w fun e w' => e = .returned (.bool true) ∧ Below w.heap.size w w' := by
  unfold maxLen at w0
  go_enter Try.func7, Try.ntmps7
  go_wp2_with fail
  refine (awake_any _).mono ?_
  rintro e w1 ⟨rfl, hb1⟩
  go_wp2
  go_ret
  exact ⟨rfl, hb1⟩

set_option maxRecDepth 100000 in
set_option maxHeartbeats 2000000 in
theorem walk_no (a0 : ByteArray) (n m : Int) (w : World) (hsm : a0.size ≤ 5000) (hn0 : -9223372036854775808 ≤ n) (hm1 : m ≤ 9223372036854775807) (h : ¬ (0 ≤ n ∧ n ≤ m ∧ m ≤ (Ln.splitL a0.data.toList).length)) :
    Calls Try.prog 7 #[.string a0, .int .i64 n, .int .i64 m] w fun e w' => e = .returned (.bool true) ∧ Below w.heap.size w w' := by
  obtain ⟨L, hL⟩ : ∃ L, L = Ln.splitL a0.data.toList := ⟨_, rfl⟩
  have hll : L.length ≤ 5000 := by
    have h1 := Ln.splitL_len a0.data.toList
    rw [← hL] at h1
    exact Nat.le_trans h1 hsm
  have HL : Hid (L = Ln.splitL a0.data.toList) := hL
  have HN : Hid (¬ (0 ≤ n ∧ n ≤ m ∧ m ≤ (Ln.splitL a0.data.toList).length)) := h
  rw [← hL] at h
  have hcase : n < 0 ∨ (0 ≤ n ∧ m < n) ∨ (0 ≤ n ∧ n ≤ m ∧ (L.length : Int) < m) := by omega
  clear h hL
  rcases hcase with h1 | ⟨h1, h2⟩ | ⟨h1, h2, h3⟩
  all_goals
    go_enter Try.func7, Try.ntmps7
    go_wp2_with fail
    refine (awake_any _).mono ?_
    rintro e w1 ⟨rfl, hb1⟩
    go_wp2_with fail
    refine (split_any a0 (by omega) _).mono ?_
    rintro e w2 ⟨v, rfl, hown, hb2⟩
    rw [← HL.out] at hown
    obtain ⟨ao, cap, b, off, rfl, hao, hc⟩ := (RowLow.of_owns hown).parts
    clear hown hao hc
    go_wp2_with fail
    refine (span_no a0 (by omega) n m hn0 hm1 HN.out _).mono ?_
    rintro e w3 ⟨rfl, hb3⟩
    unfold spanV
    go_wp2
    go_ret
    exact ⟨rfl, ((hb1.trans (hb2.mono hb1.size)).trans (hb3.mono (Nat.le_trans hb1.size hb2.size))).alloc (Nat.le_trans hb1.size (Nat.le_trans hb2.size hb3.size)) _⟩

theorem flat_take (L : List (List UInt8)) (n m : Nat) (h : n ≤ m) : ((L.take m).drop n).flatten = (L.flatten.drop (L.take n).flatten.length).take ((L.take m).flatten.length - (L.take n).flatten.length) := by
  have e1 : L.flatten = (L.take n).flatten ++ ((L.take m).drop n).flatten ++ (L.drop m).flatten := by
    conv => lhs; rw [← List.take_append_drop m L, List.flatten_append]
    congr 1
    conv => lhs; rw [← List.take_append_drop n (L.take m), List.flatten_append]
    rw [List.take_take, Nat.min_eq_left h]
  have e2 : (L.take m).flatten.length = (L.take n).flatten.length + ((L.take m).drop n).flatten.length := by
    conv => lhs; rw [← List.take_append_drop n (L.take m), List.flatten_append, List.length_append]
    rw [List.take_take, Nat.min_eq_left h]
  rw [e2, Nat.add_sub_cancel_left]
  conv => rhs; rw [e1, List.append_assoc, List.drop_append_of_le_length (Nat.le_refl _), List.drop_length, List.nil_append]
  rw [List.take_append_of_le_length (Nat.le_refl _), List.take_length]

theorem keepc {X wj : World} {B j : Nat} {v : Value} (hbj : Below X.drew.heap.size X.drew wj) (hBX : B < X.heap.size) (c : X.cell? ⟨B, j, none⟩ = some v) : wj.cell? ⟨B, j, none⟩ = some v :=
  (hbj.cell (p := ⟨B, j, none⟩) hBX).trans c

/-- A part of a row. -/
theorem row_cut {N : Nat} {w : World} {ao : Option Addr} {cap : Nat} {L : List (List UInt8)} (h : RowLow N w (.slice ao L.length cap) L) (hcap : L.length ≤ cap) {n m : Nat} (h1 : n ≤ m) (h2 : m ≤ L.length) :
    RowLow N w (.slice (if cap = n then ao else Option.map (fun x => x.add n) ao) (m - n) (cap - n)) ((L.take m).drop n) := by
  have hlen : ((L.take m).drop n).length = m - n := by rw [List.length_drop, List.length_take, Nat.min_eq_left h2]
  by_cases hmn : m = n
  · subst hmn
    exact .inl ⟨List.length_eq_zero_iff.1 (by omega), _, _, by rw [Nat.sub_self]⟩
  · rcases h with ⟨rfl, _⟩ | ⟨b, off, cap', hlt, hv, hc⟩
    · simp at h2; omega
    · have hne : ¬ cap = n := by omega
      injection hv with e1 e2 e3
      subst e1
      have ha : (⟨b, off, none⟩ : Addr).add n = ⟨b, off + n, none⟩ := by cases n <;> simp [Addr.add]
      refine .inr ⟨b, off + n, cap - n, hlt, by rw [if_neg hne, hlen]; simp [ha], fun j x hx => ?_⟩
      rw [List.getElem?_drop, List.getElem?_take] at hx
      split at hx
      · have := hc (n + j) x hx
        rw [Nat.add_assoc]; exact this
      · simp at hx

set_option maxRecDepth 100000 in
set_option maxHeartbeats 4000000 in
theorem walk_yes (a0 : ByteArray) (n m : Nat) (w : World) (hsm : a0.size ≤ 5000) (h : n ≤ m ∧ m ≤ (Ln.splitL a0.data.toList).length) :
    Calls Try.prog 7 #[.string a0, .int .i64 n, .int .i64 m] w fun e w' => e = .returned (.bool true) ∧ Below w.heap.size w w' := by
  obtain ⟨L, hL⟩ : ∃ L, L = Ln.splitL a0.data.toList := ⟨_, rfl⟩
  have hll : L.length ≤ 5000 := by
    have h1 := Ln.splitL_len a0.data.toList
    rw [← hL] at h1
    exact Nat.le_trans h1 hsm
  have hsp := span_yes a0 (by omega) n m (by omega) (by omega) (by omega)
  rw [Int.toNat_natCast, Int.toNat_natCast] at hsp
  obtain ⟨p, hp⟩ : ∃ p, p = Ln.behindL a0.data.toList n := ⟨_, rfl⟩
  obtain ⟨q, hq⟩ : ∃ q, q = Ln.behindL a0.data.toList m := ⟨_, rfl⟩
  have hq1 : q ≤ a0.size := by rw [hq]; exact Ln.behindL_le _ _
  have hpq : p ≤ q := by
    rw [hp, hq]; unfold Ln.behindL
    have e2 := take_flat_le ((Ln.splitL a0.data.toList).take m) n
    rw [List.take_take, Nat.min_eq_left h.1] at e2
    exact e2
  rw [← hp, ← hq] at hsp
  have hres : a0.extract p q = Ln.bs ((L.take m).drop n).flatten := by
    rw [Lib.extract_eq, flat_take L n m h.1, hL, Ln.splitL_flatten, hp, hq]; rfl
  have HRES : Hid (a0.extract p q = Ln.bs ((L.take m).drop n).flatten) := hres
  have HSP := hsp
  have h2 := h.2
  rw [← hL] at h2
  have h1 := h.1
  have HL : Hid (L = Ln.splitL a0.data.toList) := hL
  have HSP : Hid (∀ w : World, Calls Try.prog 13 #[.string a0, .int .i64 n, .int .i64 m] w fun e W' => e = .returned (spanV p q 0) ∧ Below w.heap.size w W') := hsp
  clear hres hsp h hL hp hq
  go_enter Try.func7, Try.ntmps7
  go_wp2_with fail
  refine (awake_any _).mono ?_
  rintro e w1 ⟨rfl, hb1⟩
  go_wp2_with fail
  refine (split_any a0 (by omega) _).mono ?_
  rintro e w2 ⟨v, rfl, hown, hb2⟩
  rw [← HL.out] at hown
  have hlow := RowLow.of_owns hown
  obtain ⟨ao, cap, rfl, hcap⟩ : ∃ ao cap, v = .slice ao L.length cap ∧ L.length ≤ cap := by
    rcases hown.2 with ⟨rfl, h0⟩ | ⟨g, cap, cur, rfl, _, _, hnc, _⟩
    · exact ⟨none, 0, by rw [h0], by omega⟩
    · exact ⟨_, cap, rfl, hnc⟩
  go_wp2_with fail
  refine (HSP.out _).mono ?_
  rintro e w3 ⟨rfl, hb3⟩
  unfold spanV
  have hlow3 : RowLow w2.heap.size w3 (.slice ao L.length cap) L := hlow.below hb3 (Nat.le_refl _)
  obtain ⟨X, hX⟩ : ∃ X, X = w3.alloc (.cells #[.int .i64 p, .int .i64 q] 29) := ⟨_, rfl⟩
  obtain ⟨B, hB⟩ : ∃ B, B = w3.heap.size := ⟨_, rfl⟩
  have hm : X.heap[B]? = some (.cells #[.int .i64 p, .int .i64 q] 29 (0, 0)) := by rw [hX, hB]; exact World.alloc_heap_new w3 _
  have hXB : Below w3.heap.size w3 X := by rw [hX]; exact (Below.refl _ w3).alloc (Nat.le_refl _) _
  have hBX : B < X.heap.size := (Array.getElem?_eq_some_iff.1 hm).1
  have c0 : X.cell? ⟨B, 0, none⟩ = some (.int .i64 p) := by rw [Lib.cell_of_heap hm]; rfl
  have c1 : X.cell? ⟨B, 1, none⟩ = some (.int .i64 q) := by rw [Lib.cell_of_heap hm]; rfl
  have hlowX : RowLow X.heap.size X (.slice ao L.length cap) L := (hlow3.below hXB hb3.size).mono (Nat.le_trans hb3.size hXB.size)
  have HW : Hid (Below w.heap.size w X) := ((hb1.trans (hb2.mono hb1.size)).trans (hb3.mono (Nat.le_trans hb1.size hb2.size))).trans (hXB.mono (Nat.le_trans hb1.size (Nat.le_trans hb2.size hb3.size)))
  go_wp2_with fail
  rw [← hX, ← hB]
  clear hX hB hm hXB hb1 hb2 hb3 hlow hlow3 hown
  have i1 : (0 : Int) ≤ (n : Int) := by omega
  have i2 : (n : Int) ≤ (m : Int) := by omega
  have i3 : (m : Int) ≤ (L.length : Int) := by omega
  have i4 : (0 : Int) ≤ (p : Int) := by omega
  have i5 : (p : Int) ≤ (q : Int) := by omega
  have i6 : (q : Int) ≤ (a0.size : Int) := by omega
  have i7 : (m : Int) ≤ (cap : Int) := by omega
  have hcut : RowLow X.drew.heap.size X.drew (.slice (if cap = n then ao else Option.map (fun x => x.add n) ao) (m - n) (cap - n)) ((L.take m).drop n) :=
    row_cut (hlowX.below (Below.drew (Below.refl X.heap.size X)) (Nat.le_refl _)) hcap h1 h2
  have hs5 : ((L.take m).drop n).flatten.length ≤ 140737488355328 := by
    have e1 := congrArg ByteArray.size HRES.out
    rw [ByteArray.size_extract, Ln.bs_size] at e1
    omega
  have hl5 : ((L.take m).drop n).length ≤ 9223372036854775807 := by rw [List.length_drop, List.length_take]; omega
  by_cases hcn : cap = n
  · rw [if_pos hcn] at hcut
    rw [show cap - n = 0 from by omega] at hcut
    have i8 : (m : Int) ≤ (n : Int) := by omega
    go_region_held3 (fun w' => w'.cell? ⟨B, 0, none⟩ = some (.int .i64 p) ∧ w'.cell? ⟨B, 1, none⟩ = some (.int .i64 q))
      (go_keep)
      (first | (go_at_call 19; refine (join_any ((L.take m).drop n) _ _ hcut hs5 hl5).mono ?_; rintro e wj ⟨rfl, hbj⟩; rw [← HRES.out]; have k0 := keepc hbj hBX c0; have k1 := keepc hbj hBX c1))
    go_wp2
    go_ret
    exact ⟨rfl, HW.out.trans ((Below.drew (Below.refl w.heap.size X)).trans (hbj.mono HW.out.size))⟩
  · rw [if_neg hcn] at hcut
    go_region_held3 (fun w' => w'.cell? ⟨B, 0, none⟩ = some (.int .i64 p) ∧ w'.cell? ⟨B, 1, none⟩ = some (.int .i64 q))
      (go_keep)
      (first | (go_at_call 19; refine (join_any ((L.take m).drop n) _ _ hcut hs5 hl5).mono ?_; rintro e wj ⟨rfl, hbj⟩; rw [← HRES.out]; have k0 := keepc hbj hBX c0; have k1 := keepc hbj hBX c1))
    go_wp2
    go_ret
    exact ⟨rfl, HW.out.trans ((Below.drew (Below.refl w.heap.size X)).trans (hbj.mono HW.out.size))⟩

theorem walk (a0 : ByteArray) (n m : Int) (w0 : a0.size ≤ maxLen) (hn0 : -9223372036854775808 ≤ n) (hm1 : m ≤ 9223372036854775807) (w : World) :
    Calls Try.prog 7 #[.string a0, .int .i64 n, .int .i64 m] w fun e w' => e = .returned (.bool true) ∧ Below w.heap.size w w' := by
  by_cases h : a0.size ≤ 5000
  · by_cases hy : 0 ≤ n ∧ n ≤ m ∧ m ≤ (Ln.splitL a0.data.toList).length
    · obtain ⟨n', rfl⟩ := Int.eq_ofNat_of_zero_le hy.1
      obtain ⟨m', rfl⟩ := Int.eq_ofNat_of_zero_le (Int.le_trans hy.1 hy.2.1)
      exact walk_yes a0 n' m' w h ⟨by omega, by omega⟩
    · exact walk_no a0 n m w h hn0 hm1 hy
  · exact walk_big a0 n m w0 w (by omega)

set_option maxRecDepth 100000 in
theorem lifted (os : Os) (started : os.Started) (H : Type) (enc : TypeId × Value → H) :
    ReturnsInHanded {} Try.checked os 7 .any (Rows.linesPartsSpec.pre6 enc Try.prog Try.f7 Rows.linesPartsRow.domain false) (Rows.linesPartsSpec.post enc Try.prog Try.f7 false true false false) := by
  refine returnsInHanded_of_change (C := Try.checked) own started (by kernel_rfl) Try.func7
    (ChangeSpec.witness6 (enc := enc) (C := Try.checked) false ⟨#[], #[.string ByteArray.empty, .int .i64 0, .int .i64 0], []⟩ 8 (by kernel_rfl) (by kernel_rfl) (by kernel_rfl) (by kernel_rfl)) ?_
  intro W base args ds gs before hval0 hW hcnd _
  have hval : ∀ (j : Nat) t v, Try.f7.params[j]? = some t → args[j]? = some v → Value.okWide Try.prog W .any base t v := hval0
  have hW' := hW
  obtain ⟨p, q, hA0, hV, rfl, hfz, hnd⟩ := hW
  have hA : DataW.TrodAll enc Try.prog W 0 (fun _ => true) true Try.f7.params.toList args.toList ds p := hA0
  rw [Try.params7] at hA hval
  obtain ⟨v0, vs0, d0, ds0, p0, q0, hargs, rfl, rfl, h0, r0⟩ := trodAll_cons hA
  obtain ⟨v1, vs1, d1, ds1, p1, q1, rfl, rfl, rfl, h1, r1⟩ := trodAll_cons r0
  obtain ⟨v2, vs2, d2, ds2, p2, q2, rfl, rfl, rfl, h2, r2⟩ := trodAll_cons r1
  obtain ⟨rfl, rfl, rfl⟩ := trodAll_nil r2
  obtain rfl : args = #[v0, v1, v2] := by cases args; simp_all
  obtain ⟨rfl, rfl⟩ := trodVars_none hV
  obtain ⟨a0, rfl, rfl, rfl, w0⟩ := open_string Try.underlying9 (hval 0 9 v0 rfl rfl) h0
  obtain ⟨a1, rfl, rfl, rfl, w1⟩ := open_int Try.underlying3 (hval 1 3 v1 rfl rfl) h1
  obtain ⟨a2, rfl, rfl, rfl, w2⟩ := open_int Try.underlying3 (hval 2 3 v2 rfl rfl) h2
  clear hA0 hval0
  have b1 := bounds_i64 w1
  have b2 := bounds_i64 w2
  refine (walk a0 a1 a2 w0 b1.1 b2.2 W).mono fun e W' ⟨he, bel⟩ => ?_
  subst he
  exact ⟨_, rfl, _, _, _, [], _, [], hW', trodAll_mk1 (shut_bool Try.underlying4 _), (trodAll_cons_mk (shut_string Try.underlying9 w0) (trodAll_cons_mk (shut_int Try.underlying3 w1) (trodAll_cons_mk (shut_int Try.underlying3 w2) trodAll_mk0))), rfl, bel.frame _, fun h => by cases h⟩

end Go.Proofs.Ytapnakcoanjfgaa.linesParts

namespace Go.Proofs.Ytapnakcoanjfgaa
open Go.ChangeShapes Go.WideShapes Go.ChangeAt Go.RowKit

theorem linesParts_holds : Rows.LinesPartsSaid :=
  OpenClaim.holds_of_wide 7 Try.f7 rfl rfl rfl rfl rfl rfl rfl ⟨rfl, rfl, rfl, rfl, rfl⟩ rfl rfl rfl rfl rfl (by kernel_rfl) Try.func7 (by kernel_rfl)
    (of_decide_eq_true (by kernel_rfl)) (by unfold Func.isWrapper; first | (rw [if_pos (by decide +kernel)]; kernel_rfl) | (rw [if_neg (by decide +kernel)]; exact ⟨rfl, rfl⟩))
    (fun os started H enc _ => linesParts.lifted os started H enc)

#print axioms linesParts_holds
end Go.Proofs.Ytapnakcoanjfgaa
