/-
  The walks of value.text and value.Text.
-/
import Derived.Test.YtcnmgebjbaclaaaDoorVlText
import Derived.WalkLawsBesides
namespace Go.Proofs.YtcnmgebjbaclaaaDoor
open Go.RowKit Go.Shelf
open Vl (V Res)

attribute [local go_sem] Oper.semAt_some

theorem bs_cat (a b : List UInt8) : Ln.bs a ++ Ln.bs b = Ln.bs (a ++ b) := by
  apply ByteArray.ext
  simp [Ln.bs]
theorem join_len (B : Nat) : ∀ L : List (List UInt8), (∀ x ∈ L, x.length ≤ B) → (Vl.join L).length ≤ L.length * (B + 1) := by
  intro L h
  unfold Vl.join
  induction L with
  | nil => simp [Lib.join]
  | cons x r ih =>
    have h1 := h x (by simp)
    have h2 := ih (fun y hy => h y (by simp [hy]))
    cases r with
    | nil => simp [Lib.join]; omega
    | cons y s =>
      have hj : Lib.join (x :: y :: s) [32] = x ++ ([32] ++ Lib.join (y :: s) [32]) := by simp [Lib.join, List.intercalate, List.intersperse]
      rw [hj, List.length_append, List.length_append]
      simp only [List.length_cons, List.length_nil] at h2 ⊢
      have e : (s.length + 1 + 1) * (B + 1) = (s.length + 1) * (B + 1) + (B + 1) := by rw [Nat.add_mul (s.length + 1) 1 (B + 1)]; omega
      omega

set_option maxRecDepth 100000 in
set_option maxHeartbeats 8000000 in
theorem text_any (x : VA) (w : World) (hx : x.Low w.heap.size w) (hf : V.Fit x.v) (ht : TabW w) :
    Calls Tryd.prog 31 #[x.val] w fun e w' => e = .returned (.string (Ln.bs (Vl.text x.v))) ∧ Below w.heap.size w w' := by
  obtain ⟨i0, hi, hz0, hz1, hz2⟩ := info_parts info9
  obtain ⟨⟨ao, cap, b, off, e1, -, hao, hc⟩, hrl⟩ := hx
  obtain ⟨k, n, vs, r⟩ := x
  simp only at e1 hao hc hrl
  subst e1
  have hn0 : -9223372036854775808 ≤ n := hf.n0
  have hn1 : n ≤ 9223372036854775807 := hf.n1
  have HR0 : Hid (∀ z ∈ r, -9223372036854775808 ≤ z ∧ z ≤ 9223372036854775807) := hf.r0
  have HC : Hid (∀ (j : Nat) (z : Int), r[j]? = some z → w.cell? ⟨b, off + j, none⟩ = some (.int .i64 z)) := fun j z hz => hc j _ (by rw [List.getElem?_map, hz]; rfl)
  have HRR : Hid (∀ W, Calls Tryd.prog 11 #[vV k n (.slice ao r.length cap)] W fun e w' => e = .returned (.bool (Vl.right ⟨k, n, r⟩)) ∧ Below W.heap.size W w') := right_any k n ao r cap hrl
  have HTX : Hid (Vl.text ⟨k, n, r⟩ = if Vl.right ⟨k, n, r⟩ = false then [63] else if k = 1 then Lib.itoa n else if k = 2 then (if n = 1 then [116, 114, 117, 101] else [102, 97, 108, 115, 101]) else [91] ++ Vl.join (r.map Lib.itoa) ++ [93]) := rfl
  have HTB : Hid (TabW w) := ht
  have HL : Hid (Vl.right ⟨k, n, r⟩ = true → k ≠ 1 → k ≠ 2 → r.length ≤ 1024) := by
    show _ → _ → _ → _
    intro h h1 h2
    unfold Vl.right at h
    simp only [h1, h2, if_false] at h
    split at h
    · simp at h; exact h.2
    · cases h
  obtain ⟨T, hT⟩ : ∃ t, t = Vl.text ⟨k, n, r⟩ := ⟨_, rfl⟩
  have hv : VA.v ⟨k, n, .slice ao r.length cap, r⟩ = ⟨k, n, r⟩ := rfl
  rw [hv, ← hT]
  rw [← hT] at HTX
  obtain ⟨R, hR⟩ : ∃ x, x = Vl.right ⟨k, n, r⟩ := ⟨_, rfl⟩
  rw [← hR] at HTX HRR HL
  clear hT hv hf ht hc hR
  obtain ⟨X, hX⟩ : ∃ X, X = w.alloc (.cells #[.int .u8 k, .int .i64 n, .slice ao r.length cap] 25) := ⟨_, rfl⟩
  have HX : Hid (Below w.heap.size w X ∧ X.heap[w.heap.size]? = some (.cells #[.int .u8 k, .int .i64 n, .slice ao r.length cap] 25 (0, 0)) ∧ w.heap.size < X.heap.size) := by rw [hX]; exact ⟨below_new w _, World.alloc_heap_new w _, by rw [World.size_alloc]; omega⟩
  simp only [VA.val]
  go_enter Tryd.func31, Tryd.ntmps31
  go_wp2_with fail
  rw [← hX]
  clear hX
  refine Calls.mono (HRR.out X) ?_
  rintro e w1 ⟨rfl, hb1⟩
  have H1 : Hid (Below w.heap.size w w1 ∧ w1.heap[w.heap.size]? = some (.cells #[.int .u8 k, .int .i64 n, .slice ao r.length cap] 25 (0, 0)) ∧ w.heap.size < w1.heap.size) := ⟨below_then HX.out.1 hb1, (hb1.block _ HX.out.2.2).trans HX.out.2.1, Nat.lt_of_lt_of_le HX.out.2.2 hb1.size⟩
  clear hb1 HX HRR
  cases R with
  | false =>
    go_wp2
    go_ret
    rw [HTX.out]
    exact ⟨rfl, H1.out.1⟩
  | true =>
    have HTX2 : Hid (T = if k = 1 then Lib.itoa n else if k = 2 then (if n = 1 then [116, 114, 117, 101] else [102, 97, 108, 115, 101]) else [91] ++ Vl.join (r.map Lib.itoa) ++ [93]) := HTX.out
    clear HTX
    have c0 := vcells_at H1.out.2.1 (o := 0) rfl
    have c1 := vcells_at H1.out.2.1 (o := 1) rfl
    have c2 := vcells_at H1.out.2.1 (o := 2) rfl
    by_cases hk1 : k = 1
    · subst hk1
      go_wp2_with fail
      refine Calls.mono (isInt_any _ _ _ _) ?_
      rintro e w2 ⟨rfl, hb2⟩
      have H2 : Hid (Below w.heap.size w w2 ∧ w2.heap[w.heap.size]? = some (.cells #[.int .u8 1, .int .i64 n, .slice ao r.length cap] 25 (0, 0)) ∧ w.heap.size < w2.heap.size) := ⟨below_then H1.out.1 hb2, (hb2.block _ H1.out.2.2).trans H1.out.2.1, Nat.lt_of_lt_of_le H1.out.2.2 hb2.size⟩
      clear c0 c1 c2 hb2 H1
      have c1 := vcells_at H2.out.2.1 (o := 1) rfl
      go_wp2_with fail
      refine Calls.mono (digits_any n hn0 hn1 _ (HTB.out.at H2.out.1)) ?_
      rintro e w3 ⟨rfl, hb3⟩
      go_wp2
      go_ret
      rw [HTX2.out]
      exact ⟨rfl, below_then H2.out.1 hb3⟩
    · have hd1 : decide (k = 1) = false := decide_eq_false hk1
      go_wp2_with fail
      refine Calls.mono (isInt_any _ _ _ _) ?_
      rintro e w2 ⟨he, hb2⟩
      rw [hd1] at he
      subst he
      have H2 : Hid (Below w.heap.size w w2 ∧ w2.heap[w.heap.size]? = some (.cells #[.int .u8 k, .int .i64 n, .slice ao r.length cap] 25 (0, 0)) ∧ w.heap.size < w2.heap.size) := ⟨below_then H1.out.1 hb2, (hb2.block _ H1.out.2.2).trans H1.out.2.1, Nat.lt_of_lt_of_le H1.out.2.2 hb2.size⟩
      clear c0 c1 c2 hb2 H1
      have c0 := vcells_at H2.out.2.1 (o := 0) rfl
      have c1 := vcells_at H2.out.2.1 (o := 1) rfl
      have c2 := vcells_at H2.out.2.1 (o := 2) rfl
      by_cases hk2 : k = 2
      · subst hk2
        go_wp2_with fail
        refine Calls.mono (isBool_any _ _ _ _) ?_
        rintro e w3 ⟨rfl, hb3⟩
        have H3 : Hid (Below w.heap.size w w3 ∧ w3.heap[w.heap.size]? = some (.cells #[.int .u8 2, .int .i64 n, .slice ao r.length cap] 25 (0, 0)) ∧ w.heap.size < w3.heap.size) := ⟨below_then H2.out.1 hb3, (hb3.block _ H2.out.2.2).trans H2.out.2.1, Nat.lt_of_lt_of_le H2.out.2.2 hb3.size⟩
        clear c0 c1 c2 hb3 H2
        have c1 := vcells_at H3.out.2.1 (o := 1) rfl
        by_cases hn : n = 1
        · have hq : (n == 1) = true := by simp [hn]
          go_wp2_with fail
          refine Calls.mono (fmtBool_any true _) ?_
          rintro e w4 ⟨rfl, rfl⟩
          go_wp2
          go_ret
          rw [HTX2.out]
          exact ⟨by simp [hn], H3.out.1⟩
        · have hq : (n == 1) = false := by simp [hn]
          have HN : Hid (n ≠ 1) := hn
          clear hn
          go_wp2_with fail
          refine Calls.mono (fmtBool_any false _) ?_
          rintro e w4 ⟨rfl, rfl⟩
          go_wp2
          go_ret
          rw [HTX2.out]
          exact ⟨by simp [HN.out], H3.out.1⟩
      · have hd2 : decide (k = 2) = false := decide_eq_false hk2
        have hrl2 : r.length ≤ 1024 := HL.out (by trivial) hk1 hk2
        have HT3 : Hid (T = [91] ++ Vl.join (r.map Lib.itoa) ++ [93]) := by show T = _; rw [HTX2.out, if_neg hk1, if_neg hk2]
        go_wp2_with fail
        refine Calls.mono (isBool_any _ _ _ _) ?_
        rintro e w3 ⟨he, hb3⟩
        rw [hd2] at he
        subst he
        have H3 : Hid (Below w.heap.size w w3 ∧ w3.heap[w.heap.size]? = some (.cells #[.int .u8 k, .int .i64 n, .slice ao r.length cap] 25 (0, 0)) ∧ w.heap.size < w3.heap.size) := ⟨below_then H2.out.1 hb3, (hb3.block _ H2.out.2.2).trans H2.out.2.1, Nat.lt_of_lt_of_le H2.out.2.2 hb3.size⟩
        clear c0 c1 c2 hb3 H2 HL HTX2 hd1 hd2 hk1 hk2
        have c2 := vcells_at H3.out.2.1 (o := 2) rfl
        go_wp2_with (at_make; refine wpList_make_own _ rfl _ _ 37 rfl w.heap.size 9 i0 (.string ⟨#[]⟩) 1 Tryd.underlying37 hi hz0 hz1 _ _ _ r.length rfl rfl (by omega) (by rw [hz2]; omega) (by unfold maxLen; omega) (Nat.le_of_lt H3.out.2.2) ?_; intro w4 hown4 hg4; have c2' := vcells_at ((hg4.block _ H3.out.2.2 (by simp)).trans H3.out.2.1) (o := 2) rfl)
        have hB4 : Below w.heap.size w w4 := H3.out.1.grown hg4 (Nat.le_of_lt H3.out.2.2) (by simp)
        have h04 := (hg4.block _ H3.out.2.2 (by simp)).trans H3.out.2.1
        have H4 : Hid (w.heap.size < w4.heap.size) := Nat.lt_of_lt_of_le H3.out.2.2 hg4.size
        clear hg4 c2 c2' h04
        go_loopw [3, 30] (fun t i wr => ∃ j : Nat, j ≤ r.length ∧ i = .int .i64 j ∧ wr.ownsRow w.heap.size 9 1 t j (((r.take j).map Lib.itoa).map txtV) ∧ Below w.heap.size w wr) (fun _ i _ => r.length - (intOf i).toNat)
        case atStart => exact ⟨0, Nat.zero_le _, rfl, by simpa using hown4, hB4⟩
        case round =>
          clear hown4 hB4 H4 H3
          obtain ⟨j, hj, rfl, hown, hB⟩ := hrel
          by_cases hlt : j < r.length
          · obtain ⟨z, hz⟩ : ∃ z, r[j]? = some z := ⟨r[j], List.getElem?_eq_getElem hlt⟩
            obtain ⟨rfl, hbm⟩ := hao (by omega)
            have g0 : wr.cell? ⟨b, off + j, none⟩ = some (.int .i64 z) := cell_some_below (HC.out j z hz) hB
            obtain ⟨z0, z1⟩ := HR0.out z (List.mem_of_getElem? hz)
            have HZ : Hid (r.take (j + 1) = r.take j ++ [z]) := by
              show r.take (j + 1) = r.take j ++ [z]
              rw [List.take_add_one, hz]; rfl
            clear hz hao
            go_wp2_with fail
            refine Calls.mono (digits_any z z0 z1 _ (HTB.out.at hB)) ?_
            rintro e wm ⟨rfl, hbm2⟩
            have hownm := owns_below hown hbm2
            have hBm := hB.trans (hbm2.mono hB.size)
            clear g0 hown hbm2
            go_wp2_with (at_builtin; refine wpList_append_own _ rfl _ _ 37 rfl w.heap.size 9 i0 (.string ⟨#[]⟩) 1 16 Tryd.underlying37 hi hz0 hz1 hz2 rfl (by decide) _ _ _ rfl (hownm.alloc _) ⟨wm.heap.size, 0, none⟩ 1 1 [.string (Ln.bs (Lib.itoa z))] rfl rfl (cells_new wm [.string (Ln.bs (Lib.itoa z))] 9) (by simp [Value.oneCell']) (by unfold maxLen; omega) (by omega) (by have := hBm.size; simp; omega) ?_; intro v' w5 hown' hgrow _)
            go_roundw
            case rel =>
              refine ⟨j + 1, by omega, by go_num, ?_, ?_⟩
              · rw [HZ.out, List.map_append, List.map_append]; exact hown'
              · exact (hBm.alloc hBm.size _).grown hgrow (by have := hBm.size; simp; omega) (fun q hq => (hownm.lt q hq).1)
            case measure => simp [intOf]; omega
          · have hke : j = r.length := by omega
            subst hke
            rw [List.take_length] at hown
            have HJL : Hid ((Vl.join (r.map Lib.itoa)).length ≤ 1024 * 22) := by
              have h9 := join_len 21 (r.map Lib.itoa) (fun y hy => by
                obtain ⟨z, hz, rfl⟩ := List.mem_map.1 hy
                exact Lib.itoa_length_le z (HR0.out z hz).1 (HR0.out z hz).2)
              rw [List.length_map] at h9
              show _ ≤ _
              omega
            have hlow : RowLow wr.heap.size wr _ (r.map Lib.itoa) := RowLow.of_owns (by rw [List.length_map]; exact hown)
            have HJ : Hid (_) := joined_any (r.map Lib.itoa) _ _ wr (Nat.le_refl _) hlow (by rw [List.length_map]; omega) (by have := HJL.out; omega)
            clear hown hlow hao HC
            go_wp2_with fail
            refine Calls.mono HJ.out ?_
            rintro e w5 ⟨rfl, hb5⟩
            obtain ⟨J, hJ⟩ : ∃ J, J = Vl.join (r.map Lib.itoa) := ⟨_, rfl⟩
            rw [← hJ] at HT3 HJL
            rw [← hJ]
            have s1 : (Ln.bs J).size = J.length := Ln.bs_size J
            have s2 : (Ln.bs J).size ≤ 30000 := by have := HJL.out; omega
            have HB5 : Hid (Below w.heap.size w w5) := hB.trans (hb5.mono hB.size)
            clear hJ HJ hb5 hB s1
            go_wp2
            go_ret
            refine ⟨?_, HB5.out⟩
            rw [HT3.out]
            have q1 : (⟨#[91]⟩ : ByteArray) = Ln.bs [91] := rfl
            have q2 : (⟨#[93]⟩ : ByteArray) = Ln.bs [93] := rfl
            rw [q1, q2, bs_cat, bs_cat]
            rfl
theorem text_len (v : V) (hf : V.Fit v) : (Vl.text v).length ≤ 23000 := by
  unfold Vl.text
  by_cases h : Vl.right v = false
  · rw [if_pos h]; simp
  · rw [if_neg h]
    by_cases h1 : v.k = 1
    · rw [if_pos h1]; have := Lib.itoa_length_le v.n hf.n0 hf.n1; omega
    · rw [if_neg h1]
      by_cases h2 : v.k = 2
      · rw [if_pos h2]; split <;> simp
      · rw [if_neg h2]
        have hr : v.r.length ≤ 1024 := by
          have h3 : Vl.right v = true := by simpa using h
          unfold Vl.right at h3
          simp only [h1, h2, if_false] at h3
          split at h3
          · simp at h3; exact h3.2
          · cases h3
        have h9 := join_len 21 (v.r.map Lib.itoa) (fun y hy => by
          obtain ⟨z, hz, rfl⟩ := List.mem_map.1 hy
          exact Lib.itoa_length_le z (hf.r0 z hz).1 (hf.r0 z hz).2)
        rw [List.length_map] at h9
        rw [List.length_append, List.length_append]
        simp only [List.length_cons, List.length_nil]
        omega
theorem texts_len (l : List V) (hf : ∀ v ∈ l, V.Fit v) : (Vl.texts l).length ≤ l.length * 23001 := by
  have h := join_len 23000 (l.map Vl.text) (fun y hy => by
    obtain ⟨v, hv, rfl⟩ := List.mem_map.1 hy
    exact text_len v (hf v hv))
  rw [List.length_map] at h
  exact h

set_option maxRecDepth 100000 in
set_option maxHeartbeats 8000000 in
theorem Text_any (xs : List VA) (v : Value) (w : World) (hv : VsLow w.heap.size w v xs) (hl : xs.length ≤ 1000) (hf : ∀ x ∈ xs, V.Fit x.v) (ht : TabW w) :
    Calls Tryd.prog 15 #[v] w fun e w' => e = .returned (.string (Ln.bs (Vl.texts (xs.map VA.v)))) ∧ Below w.heap.size w w' := by
  obtain ⟨i0, hi, hz0, hz1, hz2⟩ := info_parts info9
  obtain ⟨⟨ao, cap, b, off, rfl, -, hao, hc⟩, hlow⟩ := hv
  have HC : Hid (_) := hc
  have HLO : Hid (∀ x ∈ xs, x.Low w.heap.size w) := hlow
  have HF : Hid (∀ x ∈ xs, V.Fit x.v) := hf
  have HTB : Hid (TabW w) := ht
  clear hc hlow hf ht
  go_enter Tryd.func15, Tryd.ntmps15
  go_wp2_with (at_make; refine wpList_make_own _ rfl _ _ 37 rfl w.heap.size 9 i0 (.string ⟨#[]⟩) 1 Tryd.underlying37 hi hz0 hz1 _ _ _ xs.length rfl rfl (by omega) (by rw [hz2]; omega) (by unfold maxLen; omega) (Nat.le_refl _) ?_; intro w4 hown4 hg4)
  have hB4 : Below w.heap.size w w4 := (Below.refl _ _).grown hg4 (Nat.le_refl _) (by simp)
  clear hg4
  go_loopw [3, 11] (fun t i wr => ∃ j : Nat, j ≤ xs.length ∧ i = .int .i64 j ∧ wr.ownsRow w.heap.size 9 1 t j (((xs.take j).map fun x => Vl.text x.v).map txtV) ∧ Below w.heap.size w wr) (fun _ i _ => xs.length - (intOf i).toNat)
  case atStart => exact ⟨0, Nat.zero_le _, rfl, by simpa using hown4, hB4⟩
  case round =>
    clear hown4 hB4
    obtain ⟨j, hj, rfl, hown, hB⟩ := hrel
    by_cases hlt : j < xs.length
    · obtain ⟨x, hx⟩ : ∃ x, xs[j]? = some x := ⟨xs[j], List.getElem?_eq_getElem hlt⟩
      obtain ⟨rfl, hbm⟩ := hao (by omega)
      obtain ⟨g0, g1, g2⟩ := vaCells_get xs j x hx
      have c0 : wr.cell? ⟨b, off + j * 3, none⟩ = some (.int .u8 x.k) := cell_some_below (HC.out _ _ g0) hB
      have c1 : wr.cell? ⟨b, off + j * 3 + 1, none⟩ = some (.int .i64 x.n) := cell_some_below (HC.out _ _ g1) hB
      have c2 : wr.cell? ⟨b, off + j * 3 + 2, none⟩ = some x.vs := cell_some_below (HC.out _ _ g2) hB
      have hm := List.mem_of_getElem? hx
      obtain ⟨sa, sc, hsv⟩ := (HLO.out x hm).shape
      have HZ : Hid (xs.take (j + 1) = xs.take j ++ [x]) := by
        show xs.take (j + 1) = xs.take j ++ [x]
        rw [List.take_add_one, hx]; rfl
      obtain ⟨Y, hY⟩ : ∃ Y, Y = wr.alloc (.cells #[.int .u8 x.k, .int .i64 x.n, x.vs] 25) := ⟨_, rfl⟩
      have bY : Below wr.heap.size wr Y := hY ▸ below_new wr _
      have hbY := hB.trans (bY.mono hB.size)
      have HT : Hid (_) := text_any x Y ((HLO.out x hm).at hbY) (HF.out x hm) (HTB.out.at hbY)
      have hownY := owns_below hown bY
      have HBY : Hid (Below w.heap.size w Y) := hbY
      obtain ⟨t, hTt⟩ : ∃ t, t = Vl.text x.v := ⟨_, rfl⟩
      rw [← hTt] at HT
      have HTT : Hid (t = Vl.text x.v) := hTt
      obtain ⟨xk, xn, xv, xr⟩ := x
      simp only at hsv
      subst hsv
      simp only [VA.val] at HT c0 c1 c2 hY
      clear g0 g1 g2 hx hm hao hown bY hbY hTt hB
      go_wp2_with fail
      rw [← hY]
      clear hY c0 c1 c2
      refine Calls.mono HT.out ?_
      rintro e wm ⟨rfl, hbm2⟩
      have hownm := owns_below hownY hbm2
      have hBm := HBY.out.trans (hbm2.mono HBY.out.size)
      clear hownY hbm2 HT
      go_wp2_with (at_builtin; refine wpList_append_own _ rfl _ _ 37 rfl w.heap.size 9 i0 (.string ⟨#[]⟩) 1 16 Tryd.underlying37 hi hz0 hz1 hz2 rfl (by decide) _ _ _ rfl (hownm.alloc _) ⟨wm.heap.size, 0, none⟩ 1 1 [.string (Ln.bs t)] rfl rfl (cells_new wm [.string (Ln.bs t)] 9) (by simp [Value.oneCell']) (by unfold maxLen; omega) (by omega) (by have := hBm.size; simp; omega) ?_; intro v' w5 hown' hgrow _)
      go_roundw
      case rel =>
        refine ⟨j + 1, by omega, by go_num, ?_, ?_⟩
        · rw [HZ.out, List.map_append, List.map_append]
          have e : [(⟨xk, xn, .slice sa xr.length sc, xr⟩ : VA)].map (fun x => Vl.text x.v) = [t] := by rw [HTT.out]; rfl
          rw [e]; exact hown'
        · exact (hBm.alloc hBm.size _).grown hgrow (by have := hBm.size; simp; omega) (fun q hq => (hownm.lt q hq).1)
      case measure => simp [intOf]; omega
    · have hke : j = xs.length := by omega
      subst hke
      rw [List.take_length] at hown
      have hlow : RowLow wr.heap.size wr _ (xs.map fun x => Vl.text x.v) := RowLow.of_owns (by rw [List.length_map]; exact hown)
      have hjl := texts_len (xs.map VA.v) (fun y hy => by
        obtain ⟨x, hx, rfl⟩ := List.mem_map.1 hy
        exact HF.out x hx)
      have hee : Vl.texts (xs.map VA.v) = Vl.join (xs.map fun x => Vl.text x.v) := by
        unfold Vl.texts
        rw [List.map_map]; rfl
      rw [hee, List.length_map] at hjl
      have HE : Hid (_) := hee
      have HJ : Hid (_) := joined_any (xs.map fun x => Vl.text x.v) _ _ wr (Nat.le_refl _) hlow (by rw [List.length_map]; omega) (by omega)
      clear hown hlow hao HC hjl hee
      go_wp2_with fail
      refine Calls.mono HJ.out ?_
      rintro e w5 ⟨rfl, hb5⟩
      go_wp2
      go_ret
      rw [HE.out]
      exact ⟨rfl, hB.trans (hb5.mono hB.size)⟩
end Go.Proofs.YtcnmgebjbaclaaaDoor
